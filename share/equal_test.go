package share

import (
	"math"
	"testing"

	"turnpike/api"
)

// isEqual asks that Equal tells of all pairs of a right list what the chapter says.
func isEqual(t *testing.T, l []api.Node) (pairs int) {
	t.Helper()
	x := equalsOf(l)
	for a := range l {
		for b := range l {
			want := x.are(a, b)
			if want && a != b {
				pairs++
			}
			if ok, e := Equal(l, a, b); ok != want || e != api.OK {
				t.Fatalf("P1202: Equal of %d and %d of %s: %v, %v, want %v", a, b, textOf(l), ok, e, want)
			}
		}
	}
	return pairs
}

func TestP1202ByHand(t *testing.T) {
	for _, x := range []struct {
		text string
		a, b int
		want bool
	}{
		{"0 0=1", 0, 0, true}, {"1 0=1", 0, 0, true}, {"128 0=1", 0, 0, true},
		{"1 0>1 1>2; 1 0=5 1=6; 1 0=5 1=6", 1, 2, true}, {"1 0>1 1>2; 1 0=5 1=6; 1 0=5 1=6", 0, 1, false}, {"1 0>1 1>2; 1 0=5 1=6; 1 0=5 1=6", 0, 0, true},
		// Bits, next hops, places, kinds.
		{"1 0>1 1>2; 1 0=5; 2 0=5", 1, 2, false}, {"1 0>1 1>2; 1 0=5; 1 0=6", 1, 2, false}, {"1 0>1 1>2; 1 0=0; 1 0=65535", 1, 2, false}, {"1 0>1 1>2; 2 0=5 1=6; 2 0=5 2=6", 1, 2, false}, {"1 0>1 1>2; 2 0=5 1=6; 2 0=5 1=6 2=5", 1, 2, false}, {"1 0>1 1>2; 1 0>3 1=3; 1 0=3 1>3; 1 0=3", 1, 2, false}, {"1 0>1 1>2; 1 0=3; 1 0>3; 1 0=3", 1, 2, false}, {"1 0>1 1>2; 1 0=3; 1 0>3; 1 0=3", 1, 3, true},
		// By what they lead to, also several levels down.
		{"1 0>1 1>2; 1 0>3; 1 0>4; 1 0=7; 1 0=7", 1, 2, true}, {"1 0>1 1>2; 1 0>3; 1 0>4; 1 0=7; 1 0=8", 1, 2, false},
		{"1 0>1 1>2; 1 0>3; 1 0>4; 1 0>5; 1 0>6; 1 0=7; 1 0=7", 1, 2, true}, {"1 0>1 1>2; 1 0>3; 1 0>4; 1 0>5; 1 0>6; 1 0=7; 1 0=7", 3, 4, true}, {"1 0>1 1>2; 1 0>3; 1 0>4; 1 0>5; 1 0>6; 1 0=7; 1 0=7", 1, 3, false}, {"1 0>1 1>2; 1 0>3; 1 0>4; 1 0>5; 1 0>6; 1 0=7; 1 0=7 1=6", 1, 2, false},
		// By slots: one run, two, three.
		{"1 0>1 1>2; 1 0>3 1>4; 1 0>5; 1 0=5; 1 0=5; 1 0=5", 1, 2, true}, {"1 0>1 1>2; 1 0>3 1>4; 1 0>5; 1 0=5; 1 0=6; 1 0=5", 1, 2, false}, {"1 0>1 1>2; 2 0>3 1>4 2>5; 2 0>5 3>4; 1 0=5; 1 0=5; 1 0=5", 1, 2, true}, {"1 0>1 1>2; 2 0>3 1>4 2=5; 2 0>5 3=5; 1 0=5; 1 0=5; 1 0=5", 1, 2, false},
		// Where a run says the number of a node.
		{"1 0>1 1>2; 1 0>4 1=4; 1 0>3 1=4; 1 0=1; 1 0=1", 1, 2, true}, {"1 0>1 1>2; 1 0>4 1=4; 1 0>3 1=3; 1 0=1; 1 0=1", 1, 2, false},
	} {
		l := nodesOf(x.text)
		for _, pair := range [][2]int{{x.a, x.b}, {x.b, x.a}} {
			if ok, e := Equal(l, pair[0], pair[1]); ok != x.want || e != api.OK {
				t.Errorf("P1202: %v of %s: %v, %v, want %v", pair, x.text, ok, e, x.want)
			}
		}
	}
}

// TestP1202NoNumber: ErrArg of what is no node's number, whichever of the two it is.
func TestP1202NoNumber(t *testing.T) {
	for text, size := range map[string]int{"0 0=1": 1, "1 0>1 1>2; 1 0=5; 1 0=5": 3, "128 0=1": 1} {
		l := nodesOf(text)
		for _, n := range []int{math.MinInt, -1 << 32, -2, -1, size, size + 1, 1 << 32, math.MaxInt} {
			for _, pair := range [][2]int{{n, 0}, {0, n}, {n, n}, {n, size - 1}, {size - 1, n}, {-n, n}} {
				if ok, e := Equal(l, pair[0], pair[1]); ok || e != api.ErrArg {
					t.Errorf("P1202: %v of %s: %v, %v", pair, text, ok, e)
				}
			}
		}
	}
}

// TestP1202Wrong: mtrie.Check's error by 128, ahead of ErrArg.
func TestP1202Wrong(t *testing.T) {
	for _, x := range wrong {
		l := nodesOf(x.text)
		for _, pair := range [][2]int{{0, 0}, {0, len(l)}, {-1, 0}, {-1, len(l)}, {math.MinInt, math.MaxInt}} {
			want := x.six
			if want == api.OK && pair != [2]int{0, 0} {
				want = api.ErrArg
			}
			if ok, e := Equal(l, pair[0], pair[1]); ok != (want == api.OK) || e != want {
				t.Errorf("P1202: %v of %s: %v, %v, want %v", pair, x.text, ok, e, want)
			}
		}
	}
}

func TestP1202SmallLists(t *testing.T) {
	for size := 1; size <= 4; size++ {
		for l := range smallLists(size) {
			isEqual(t, l)
		}
	}
}

func TestP1202AsTheChapterSays(t *testing.T) {
	pairs := 0
	for _, l := range samples(128) {
		if len(l) < 60 {
			pairs += isEqual(t, l)
		}
	}
	if pairs < 3000 {
		t.Errorf("only %d pairs are equal", pairs)
	}
}

// TestP1202OneOutline: nodes of which all that is cheap to tell is the same are held against one another whole.
func TestP1202OneOutline(t *testing.T) {
	next := counter()
	for range 200 {
		a := api.Node{Bits: 127, Runs: []api.Run{{N: 1}, {From: api.Word{Hi: 1, Lo: next()}, N: 3}}}
		b := api.Node{Bits: 127, Runs: []api.Run{{N: 2}, {From: api.Word{Hi: 1}, N: 3}}}
		// What has come into the sum up to the second run's Lo is undone by that.
		b.Runs[1].From.Lo = upTo(a) ^ a.Runs[1].From.Lo ^ upTo(b)
		if outlineOf(a) != outlineOf(b) {
			t.Fatalf("%v and %v have two outlines", a, b)
		}
		l := append(nodesOf("1 0>1 1>2"), a, b)
		if ok, e := Equal(l, 1, 2); ok || e != api.OK {
			t.Fatalf("P1202: %s: %v, %v", textOf(l), ok, e)
		}
		if s := shareOf(t, 128, l); !like(s, l) {
			t.Fatalf("P1201: %s: %s", textOf(l), textOf(s))
		}
		l = []api.Node{{Bits: 1}, {Bits: 1}, {Bits: 1}, a, b, b, a}
		for i, runs := range [][]api.Run{{{Kid: true, N: 1}, {From: api.Word{Lo: 1}, Kid: true, N: 2}}, {{Kid: true, N: 3}, {From: api.Word{Lo: 1}, Kid: true, N: 4}}, {{Kid: true, N: 5}, {From: api.Word{Lo: 1}, Kid: true, N: 6}}} {
			l[i].Runs = runs
		}
		l[3].Bits, l[4].Bits, l[5].Bits, l[6].Bits = 126, 126, 126, 126
		isShared(t, 128, l)
		isEqual(t, l)
	}
}

// upTo is the sum of a node of two runs ahead of the second one's Lo.
func upTo(n api.Node) uint64 {
	r := n.Runs[0]
	return stir(stir(stir(stir(0, r.From.Hi), r.From.Lo), said(r)), n.Runs[1].From.Hi)
}
