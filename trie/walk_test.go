package trie

import (
	"iter"
	"math"
	"slices"
	"testing"

	"turnpike/api"
	"turnpike/prefix"
)

// goesOver asks that a sequence goes over just these.
func goesOver(t *testing.T, s iter.Seq[int], want ...int) {
	t.Helper()
	if got := slices.Collect(s); !slices.Equal(got, want) {
		t.Fatalf("it goes over %v, want %v", got, want)
	}
}

// chapters is the tree of the chapter's first example.
func chapters(t *testing.T) *Trie {
	t.Helper()
	return grown(t, read(32, "0.0.0.0/2 3 128.0.0.0/1 1 192.0.0.0/2 2"))
}

func TestP803ByHand(t *testing.T) {
	x := chapters(t)
	for s, want := range map[string]int{
		"0.0.0.0/0": 0, "0.0.0.0/1": 1, "0.0.0.0/2": 2, "128.0.0.0/1": 3, "192.0.0.0/2": 4, "0.0.0.0/3": -1, "64.0.0.0/2": -1, "128.0.0.0/2": -1, "192.0.0.0/3": -1, "224.0.0.0/3": -1,
		"0.0.0.0/32": -1, "192.0.0.0/32": -1, "255.255.255.255/32": -1,
	} {
		if n := x.Find(readPrefix(32, s)); n != want {
			t.Errorf("P803: Find(%s) = %d, want %d", s, n, want)
		}
	}
	goesOver(t, x.Down(0, 0), 0)
	goesOver(t, x.Down(0, 1), 1, 3)
	goesOver(t, x.Down(0, 2), 2, 4)
	goesOver(t, x.Down(0, 3))
	goesOver(t, x.Down(1, 0), 1)
	goesOver(t, x.Down(1, 1), 2)
	goesOver(t, x.Down(1, 2))
	goesOver(t, x.Down(3, 1), 4)
	goesOver(t, x.Down(4, 0), 4)
	goesOver(t, x.Down(4, 1))
	empty := grown(t, api.Table{W: 128})
	goesOver(t, empty.Down(0, 0), 0)
	goesOver(t, empty.Down(0, 1))
	if empty.Find(api.Prefix{}) != 0 || empty.Find(readPrefix(128, "::/1")) != -1 || empty.Find(readPrefix(128, "::/128")) != -1 {
		t.Error("P803: Find in a tree of no routes")
	}
}

func TestP804ByHand(t *testing.T) {
	x := chapters(t)
	for s, want := range map[string][]int{
		"0.0.0.0": {3, 0, 1, 2}, "63.255.255.255": {3, 0, 1, 2}, "64.0.0.0": {0, 0, 1}, "127.255.255.255": {0, 0, 1}, "128.0.0.0": {1, 0, 3}, "191.255.255.255": {1, 0, 3},
		"192.0.0.0": {2, 0, 3, 4}, "200.0.0.0": {2, 0, 3, 4}, "255.255.255.255": {2, 0, 3, 4},
	} {
		goesOver(t, x.Path(readWord(32, s)), want[1:]...)
		if hop := x.Lookup(readWord(32, s)); hop != want[0] {
			t.Errorf("P804: Lookup(%s) = %d, want %d", s, hop, want[0])
		}
	}
	for _, family := range families {
		empty := grown(t, api.Table{W: family, Routes: []api.Route{}})
		for _, sign := range []string{"0", "1"} {
			w := ofBits(fill("", family, sign))
			goesOver(t, empty.Path(w), 0)
			if hop := empty.Lookup(w); hop != 0 {
				t.Errorf("P804: Lookup in a tree of no routes = %d", hop)
			}
		}
		whole := grown(t, hops{"": 9}.table(family))
		goesOver(t, whole.Path(ofBits(fill("", family, "1"))), 0)
		if whole.Lookup(ofBits(fill("", family, "1"))) != 9 || whole.Lookup(api.Word{}) != 9 {
			t.Error("P804: Lookup by the prefix of length 0")
		}
	}
}

// TestP803NotRight: what is no right prefix is no node's, though its first bits may be.
func TestP803NotRight(t *testing.T) {
	for _, family := range families {
		for _, m := range someTables(family) {
			x, want := grown(t, m.table(family)), m.tree()
			for _, s := range want.nodes {
				for _, n := range []int{len(s) - 256, len(s) + 256, len(s) + 1<<32, math.MinInt + len(s)} {
					if k := x.Find(api.Prefix{Addr: ofBits(s), Len: n}); k != -1 {
						t.Fatalf("P803: %v: Find of %s with the length %d = %d", m, s, n, k)
					}
				}
				if len(s) == 128 {
					continue
				}
				for _, w := range []api.Word{ofBits(s + "1"), ofBits(fill(s, 128, "1")), ofBits(fill(s, 127, "0") + "1")} {
					if k := x.Find(api.Prefix{Addr: w, Len: len(s)}); k != -1 {
						t.Fatalf("P803: %v: Find of %v with %d bits = %d", m, w, len(s), k)
					}
				}
			}
			for _, n := range []int{math.MinInt, -family, -2, -1, family + 1, family + 2, 129, 255, 256, math.MaxInt} {
				for _, w := range []api.Word{{}, lastSix, ofBits(fill("", family, "1"))} {
					if k := x.Find(api.Prefix{Addr: w, Len: n}); k != -1 {
						t.Fatalf("P803: %v: Find of a prefix of the length %d = %d", m, n, k)
					}
				}
			}
		}
	}
}

func TestP803DownOfNothing(t *testing.T) {
	for _, family := range families {
		for _, m := range someTables(family) {
			x := grown(t, m.table(family))
			for _, n := range noNodes(x.Len()) {
				for _, bits := range []int{math.MinInt, -1, 0, 1, 2, 128, math.MaxInt} {
					goesOver(t, x.Down(n, bits))
				}
			}
			for n := range x.Len() {
				for _, bits := range []int{math.MinInt, math.MinInt + 1, -1 << 32, -256, -255, -128, -2, -1, x.Height(n) + 1, x.Height(n) + 256, 129, 255, 256, 257, 1 << 32, math.MaxInt - 1, math.MaxInt} {
					goesOver(t, x.Down(n, bits))
				}
				goesOver(t, x.Down(n, 0), n)
			}
		}
	}
}

func TestP804NoAddress(t *testing.T) {
	last := fill("", 32, "1")
	for _, m := range []hops{{}, {"": 1}, {"": 1, "0": 2, "1": 3, last: 4, fill("", 32, "0"): 5}, {last: 1}} {
		x := grown(t, m.table(32))
		for _, s := range []string{"", "1", last, turned(last), "00001010"} {
			for _, w := range noAddresses(32, s) {
				goesOver(t, x.Path(w))
				if hop := x.Lookup(w); hop != 0 {
					t.Fatalf("P804: %v: Lookup(%v) = %d", m, w, hop)
				}
			}
		}
	}
	// By 128 each word is an address.
	x := grown(t, hops{"": 1}.table(128))
	for _, w := range noAddresses(32, last) {
		goesOver(t, x.Path(w), 0)
		if x.Lookup(w) != 1 {
			t.Fatalf("P804: Lookup(%v) by 128", w)
		}
	}
}

// TestP804AllAddresses: those of a small tree at the end of the family's bits, each by itself.
func TestP804AllAddresses(t *testing.T) {
	for _, family := range families {
		for _, sign := range []string{"0", "1"} {
			root := fill("", family-3, sign)
			for set, m := range smallTrees(root, "", 15) {
				if set%37 != 0 {
					continue
				}
				x, want := grown(t, m.table(family)), m.tree()
				for i := range 8 {
					s := root + spell(api.Word{Hi: uint64(i) << 61}, 3)
					if hop := x.Lookup(ofBits(s)); hop != m.next(s) {
						t.Fatalf("P804: %v: Lookup(%s) = %d, want %d", m, s, hop, m.next(s))
					}
					goesOver(t, x.Path(ofBits(s)), want.path(s)...)
				}
			}
		}
	}
}

// sequence is one with what it goes over.
type sequence struct {
	s    iter.Seq[int]
	want []int
}

// thick is a table of which many prefixes lie beside and within one another.
func thick() hops {
	m := hops{fill("", 32, "1"): 9}
	for _, s := range []string{"", "0", "00", "01", "000", "001", "0011", "010", "011", "1", "1011", "1110"} {
		m[s] = 1 + len(m)
	}
	return m
}

// sequences are those that tests of sequences take.
func sequences(x *Trie, m hops) []sequence {
	want := m.tree()
	var l []sequence
	for bits := range 5 {
		for n, below := range want.down(bits) {
			if n < 8 {
				l = append(l, sequence{x.Down(n, bits), below})
			}
		}
	}
	for _, s := range []string{fill("", 32, "0"), fill("", 32, "1"), fill("0011", 32, "0"), fill("1011", 32, "1")} {
		l = append(l, sequence{x.Path(ofBits(s)), want.path(s)})
	}
	return append(l, sequence{x.Down(-1, 0), nil}, sequence{x.Down(0, -1), nil}, sequence{x.Path(lastSix), nil})
}

func TestP6LeftEarly(t *testing.T) {
	m := thick()
	for _, x := range sequences(grown(t, m.table(32)), m) {
		for enough := 1; enough <= len(x.want); enough++ {
			var got []int
			// Called by hand, so that a call behind the false would be seen.
			x.s(func(n int) bool {
				got = append(got, n)
				return len(got) < enough
			})
			if !slices.Equal(got, x.want[:enough]) {
				t.Fatalf("P6: left behind %d: %v", enough, got)
			}
		}
		goesOver(t, x.s, x.want...)
	}
}

func TestP6AgainAndWithinItself(t *testing.T) {
	m := thick()
	for _, x := range sequences(grown(t, m.table(32)), m) {
		goesOver(t, x.s, x.want...)
		var outer []int
		for n := range x.s {
			outer = append(outer, n)
			goesOver(t, x.s, x.want...)
			for range x.s {
				break
			}
		}
		if !slices.Equal(outer, x.want) {
			t.Fatalf("P6: within itself it goes over %v, want %v", outer, x.want)
		}
		goesOver(t, x.s, x.want...)
	}
}

// TestP6ByTurns: two that are ranged over at the same time don't see one another.
func TestP6ByTurns(t *testing.T) {
	m := thick()
	l := sequences(grown(t, m.table(32)), m)
	for i, a := range l {
		b := l[(i+7)%len(l)]
		first, stopFirst := iter.Pull(a.s)
		second, stopSecond := iter.Pull(b.s)
		for k := range max(len(a.want), len(b.want)) + 1 {
			n, ok := first()
			if ok != (k < len(a.want)) || ok && n != a.want[k] {
				t.Fatalf("P6: by turns: %d, %v at %d, want %v", n, ok, k, a.want)
			}
			n, ok = second()
			if ok != (k < len(b.want)) || ok && n != b.want[k] {
				t.Fatalf("P6: by turns: %d, %v at %d, want %v", n, ok, k, b.want)
			}
		}
		stopFirst()
		stopSecond()
	}
}

// TestP6LeftByAPanic: a sequence that is left so is as it was.
func TestP6LeftByAPanic(t *testing.T) {
	m := thick()
	for _, x := range sequences(grown(t, m.table(32)), m) {
		func() {
			defer func() {
				if r := recover(); (r == nil) != (len(x.want) == 0) {
					t.Errorf("P6: %v behind a panic", r)
				}
			}()
			for range x.s {
				panic("enough")
			}
		}()
		goesOver(t, x.s, x.want...)
	}
}

// TestP803SequencesOfOneTree: what is found on the way may be asked there.
func TestP803SequencesOfOneTree(t *testing.T) {
	m := thick()
	x, want := grown(t, m.table(32)), m.tree()
	var l []int
	for kid := range x.Down(0, 1) {
		for n := range x.Down(kid, 1) {
			l = append(l, n)
			p, ok := x.At(n)
			goesOver(t, x.Path(prefix.First(p)), want.path(spell(p.Addr, 32))...)
			if !ok || x.Find(p) != n {
				t.Errorf("P803: Find of %v", p)
			}
		}
	}
	goesOver(t, x.Down(0, 2), l...)
}
