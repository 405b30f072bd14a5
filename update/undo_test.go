package update

import (
	"strings"
	"testing"

	"turnpike/api"
	"turnpike/table"
)

// TestP2203MoreOftenThanCanBe: with ErrShut nothing has changed either, however often.
func TestP2203MoreOftenThanCanBe(t *testing.T) {
	for _, family := range families {
		l, m := begun(t, family, hops{"0": 1}, 3, api.MaxImage)
		for range 3 {
			for n := range 5 {
				for range n {
					doesTell(t, l, m, api.OK, set("0", 2+n), set(bitsOf(n, 3), 1))
				}
				for k := range n + 4 {
					want := api.OK
					if k >= n {
						want = api.ErrShut
					}
					if e := undoes(t, l, m); e != want {
						t.Fatalf("P2203: Undo %d behind %d: %v; want %v", k+1, n, e, want)
					}
				}
				if !table.Same(l.Table(), hops{"0": 1}.table(family)) {
					t.Fatalf("P2203: %v", l.Table())
				}
			}
		}
	}
}

// TestP2203Many: behind so many changes, as many as can be are undone, one behind the other.
func TestP2203Many(t *testing.T) {
	for _, count := range []int{1, 2, 255, 256, 257, 258, 300, 511, 512, 513, 1000} {
		for _, family := range families {
			l, m := begun(t, family, hops{"1": 7}, 2, api.MaxImage)
			for n := range count {
				doesTell(t, l, m, api.OK, set("0", n+1), set(bitsOf(n%8, 3), 1+n%5))
			}
			for l.Log() > 0 {
				if e := undoes(t, l, m); e != api.OK {
					t.Fatal(e)
				}
			}
			if e := undoes(t, l, m); e != api.ErrShut {
				t.Fatalf("P2203: behind %d changes one more is undone: %v", count, e)
			}
			// The eldest that is left leads to the number of the change ahead of it.
			want := max(0, count-256)
			if hop, _ := table.Find(l.Table(), at("0")); hop != want {
				t.Fatalf("P2203: behind %d changes undone to %d; want %d", count, hop, want)
			}
		}
	}
}

// TestP2203Again: done, undone and done again; what was undone is not there any more.
func TestP2203Again(t *testing.T) {
	for _, family := range families {
		l, m := begun(t, family, nil, 2, api.MaxImage)
		for n := range 300 {
			doesTell(t, l, m, api.OK, set("0", n+1))
			doesTell(t, l, m, api.OK, set("11", 2*n+1), set("0", 60000))
			undoes(t, l, m)
			doesTell(t, l, m, api.ErrNone, drop("10"))
			if n%3 == 0 {
				undoes(t, l, m)
				doesTell(t, l, m, api.OK, set("0", n+1))
			}
		}
		for n := 300; n > 300-256; n-- {
			if hop := l.Lookup(api.Word{}); hop != n {
				t.Fatalf("P2203: undone to %d; want %d", hop, n)
			}
			undoes(t, l, m)
		}
		if e := undoes(t, l, m); e != api.ErrShut {
			t.Errorf("P2203: %v", e)
		}
	}
}

// TestP2203ErrorsBetween: a Do that told an error is none that could be undone.
func TestP2203ErrorsBetween(t *testing.T) {
	l, m := begun(t, 32, hops{"0": 1}, 1, 200)
	for n := range 260 {
		doesTell(t, l, m, api.OK, set("10", n+1))
		for _, wrongs := range wrongsOf(32) {
			if e := does(t, l, m, changes(set("0", 9), wrongs[n%len(wrongs)])); e == api.OK {
				t.Fatalf("P2202: %v is made", wrongs[n%len(wrongs)])
			}
		}
		doesTell(t, l, m, api.ErrSize, set(strings.Repeat("0", 25), 1))
	}
	for n := 260; n > 4; n-- {
		if hop, _ := table.Find(l.Table(), at("10")); hop != n {
			t.Fatalf("P2203: undone to %d; want %d", hop, n)
		}
		undoes(t, l, m)
	}
	if e := undoes(t, l, m); e != api.ErrShut {
		t.Errorf("P2203: %v", e)
	}
}

// TestP2203AsTheChapterSays: Do and Undo in any order, each place of the ring being met.
func TestP2203AsTheChapterSays(t *testing.T) {
	next := counter()
	told, deepest := map[api.Errno]int{}, 0
	for range 4 {
		family := one(next, families...)
		l, m := begun(t, family, hops{"0": 1}, 12, 2000)
		for range 90 {
			undo := upTo(next, 4) == 0
			for range 1 + upTo(next, one(next, 10, 30)) {
				if undo {
					told[undoes(t, l, m)]++
				} else {
					told[does(t, l, m, someChanges(next, family, m.now(), one(next, 0, 20)))]++
				}
			}
			deepest = max(deepest, len(m.all))
		}
	}
	if told[api.OK] < 1500 || told[api.ErrShut] < 20 || deepest < 300 {
		t.Errorf("what was told: %v; %d", told, deepest)
	}
}

// TestP2203Kept: of states that can't be gone back to nothing is kept.
func TestP2203Kept(t *testing.T) {
	l, m := begun(t, 32, nil, 2, api.MaxImage)
	for range 2 {
		for n := range 300 {
			doesTell(t, l, m, api.OK, set("0", n+1))
		}
		for range 300 {
			undoes(t, l, m)
		}
		for n, p := range l.held.kept {
			if p.back != nil || p.image != nil {
				t.Fatalf("a state is kept at %d", n)
			}
		}
	}
}
