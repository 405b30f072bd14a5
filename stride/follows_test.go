package stride

import (
	"math"
	"math/big"
	"slices"
	"strings"
	"testing"

	"turnpike/api"
	"turnpike/cost"
)

// bestOf is Best and Least of what is right.
func bestOf(t *testing.T, x api.Table, depth int) ([]api.Stride, api.Cost) {
	t.Helper()
	l, e := Best(x, depth)
	c, f := Least(x, depth)
	if e != api.OK || f != api.OK {
		t.Fatalf("P1001: %v by %d: %v, %v", x, depth, e, f)
	}
	return l, c
}

// TestP1004 (T5): Best is a plan, its depth at most what is asked, its cost Least.
func TestP1004(t *testing.T) {
	for _, family := range families {
		for _, m := range someSets(family) {
			x, tree := m.table(family), m.tree()
			for depth := 1; depth <= family; depth++ {
				if family == 128 && depth > 12 && depth%13 != 0 {
					continue
				}
				l, least := bestOf(t, x, depth)
				c, d, e := Check(x, l)
				if e != api.OK || c != least || d > depth || !isChecked(t, x, tree, l) {
					t.Fatalf("P1004: %v by %d: %v: Check: %v, %d, %v, Least: %v", x, depth, l, c, d, e, least)
				}
			}
		}
	}
}

// TestP1004AllPlans (T5): no plan of that depth or less costs less, and one costs just that.
func TestP1004AllPlans(t *testing.T) {
	spared := 0
	for i, m := range planSets() {
		x, tree := m.table(families[i%2]), m.tree()
		height := tree.height[""]
		cheapest := make([]*big.Int, height+3)
		for _, p := range tree.plans() {
			n, depth := p.cost(), p.depth()
			for d := max(1, depth); d < len(cheapest); d++ {
				if cheapest[d] == nil || n.Cmp(cheapest[d]) < 0 {
					cheapest[d] = n
				}
			}
		}
		for depth := 1; depth < len(cheapest); depth++ {
			l, least := bestOf(t, x, depth)
			if number(least).Cmp(cheapest[depth]) != 0 {
				t.Fatalf("P1004: %v by %d: Least is %v, but a plan costs %v", m, depth, least, cheapest[depth])
			}
			p, ok := planOf(x.W, l)
			if !ok || !tree.isPlan(p) || p.depth() > depth || p.cost().Cmp(cheapest[depth]) != 0 {
				t.Fatalf("P1004: %v by %d: %v is no plan of that cost", m, depth, l)
			}
			if depth > 1 && cheapest[depth].Cmp(cheapest[depth-1]) < 0 {
				spared++
			}
		}
	}
	if spared < 50 {
		t.Errorf("only %d times a greater depth spares something", spared)
	}
}

// TestP1004EvenIsNoCheaper (T5): nor are plans of great tables that come by another way.
func TestP1004EvenIsNoCheaper(t *testing.T) {
	for _, family := range families {
		for _, m := range someSets(family) {
			x := m.table(family)
			for _, bits := range []int{1, 2, 3, 4, 5, 7, 8, 11, 16, 24, family - 1, family} {
				l, e := Even(x, bits)
				if e != api.OK {
					t.Fatalf("P1003: %v", e)
				}
				c, depth, e := Check(x, l)
				if e != api.OK || len(l) > 0 && depth < 1 {
					t.Fatalf("P1003: %v by %d: %d, %v", x, bits, depth, e)
				}
				if _, least := bestOf(t, x, max(1, depth)); cost.Cmp(least, c) > 0 {
					t.Fatalf("P1004: %v by %d: Least is %v, but Even costs %v", x, depth, least, c)
				}
			}
		}
	}
}

// TestP1004GreaterDepth: with greater depth Least is no greater; from the greatest height on it does not change.
func TestP1004GreaterDepth(t *testing.T) {
	for _, family := range families {
		for i, m := range someSets(family) {
			if family == 128 && i > 20 && i%3 != 0 {
				continue
			}
			x, height := m.table(family), m.tree().height[""]
			var ahead api.Cost
			for depth := 1; depth <= family; depth++ {
				c, e := Least(x, depth)
				if e != api.OK || depth > 1 && cost.Cmp(c, ahead) > 0 {
					t.Fatalf("P1004: %v: Least by %d: %v, %v, ahead of it %v", x, depth, c, e, ahead)
				}
				if depth > max(1, height) && c != ahead {
					t.Fatalf("P1004: %v: Least by %d: %v, but by %d %v", x, depth, c, depth-1, ahead)
				}
				ahead = c
			}
		}
	}
}

// TestP1005Depth1: Least by depth 1 is 2 to the height of the node of length 0.
func TestP1005Depth1(t *testing.T) {
	for _, family := range families {
		l := append(someSets(family), smallSets("", "", 7)...)
		for n := range family + 1 {
			l = append(l, setOf(strings.Repeat("1", n)), setOf("", fill("", n, "0"), strings.Repeat("1", n/2)))
		}
		for _, m := range l {
			x, height := m.table(family), m.tree().height[""]
			want, e := cost.Pow(height)
			if e != api.OK || height == 0 {
				want = api.Cost{}
			}
			plan, c := bestOf(t, x, 1)
			if c != want || len(plan) != min(1, height) || len(plan) > 0 && plan[0] != (api.Stride{Bits: height}) {
				t.Fatalf("P1005: %v: by depth 1: %v, %v, want %v", m, plan, c, want)
			}
		}
	}
}

// TestP1005MorePrefixes: a table of which another one has all prefixes costs no more than it.
func TestP1005MorePrefixes(t *testing.T) {
	costsMore := 0
	for _, family := range families {
		next := counter()
		for i, m := range append(someSets(family), smallSets("0", "1", 7)...) {
			more := m
			for range 3 {
				s := spell(api.Word{Hi: next(), Lo: next()}, int(next()%uint64(family+1)))
				if i%2 == 0 {
					s = s[:min(len(s), 9)]
				}
				less := more
				more = less.with(s)
				for _, depth := range []int{1, 2, 3, 5, family / 2, family} {
					_, a := bestOf(t, less.table(family), depth)
					_, b := bestOf(t, more.table(family), depth)
					if cost.Cmp(a, b) > 0 {
						t.Fatalf("P1005: %v costs %v by %d, with %s more %v", less, a, depth, s, b)
					}
					if cost.Cmp(a, b) < 0 {
						costsMore++
					}
				}
			}
		}
	}
	if costsMore < 1000 {
		t.Errorf("only %d times more prefixes cost more", costsMore)
	}
}

// TestP1005HopsDoNotCount: where routes lead changes no plan, nor does the family.
func TestP1005HopsDoNotCount(t *testing.T) {
	for _, m := range someSets(32) {
		x, y := m.table(32), m.table(128)
		for i := range y.Routes {
			y.Routes[i].Hop = 65535 - i
		}
		for _, n := range []int{1, 2, 3, 8, 32} {
			a, c := bestOf(t, x, n)
			b, d := bestOf(t, y, n)
			if !slices.Equal(a, b) || c != d {
				t.Fatalf("P1001: %v by %d: %v, %v", m, n, a, b)
			}
			a, _ = Even(x, n)
			b, _ = Even(y, n)
			if !slices.Equal(a, b) {
				t.Fatalf("P1003: %v by %d: %v, %v", m, n, a, b)
			}
		}
	}
}

// TestP2HandedIn: what is handed in is not changed, its spare room neither; what is wrong as well.
func TestP2HandedIn(t *testing.T) {
	for _, family := range families {
		for _, m := range someSets(family) {
			right := m.table(family).Routes
			backward := slices.Clone(right)
			slices.Reverse(backward)
			for _, routes := range [][]api.Route{right, backward, append(slices.Clone(right), mark)} {
				l, asItWas := guarded(routes, mark)
				x := api.Table{W: family, Routes: l}
				for _, n := range []int{0, 1, 3, family} {
					plan, _ := Best(x, n)
					Least(x, n)
					Even(x, n)
					spoilt := append(slices.Clone(plan), markStride)
					for _, strides := range [][]api.Stride{plan, spoilt} {
						handed, asTheyWere := guarded(strides, markStride)
						Check(x, handed)
						if !asTheyWere() {
							t.Fatal("P2: strides that are handed in are changed")
						}
					}
				}
				if !asItWas() {
					t.Fatal("P2: a table that is handed in is changed")
				}
			}
		}
	}
}

// overwrite puts marks over all of a list, its spare room too.
func overwrite(l []api.Stride) {
	l = l[:cap(l)]
	for i := range l {
		l[i] = markStride
	}
}

// TestP2Answers: an answer is new memory: whatever becomes of it, another one is what it was; and the same calls answer the same (P3).
func TestP2Answers(t *testing.T) {
	for _, family := range families {
		for _, m := range someSets(family) {
			x := m.table(family)
			for _, n := range []int{1, 2, 3, family} {
				a, c := bestOf(t, x, n)
				b, d := bestOf(t, x, n)
				was := slices.Clone(a)
				overwrite(b)
				if !slices.Equal(a, was) || c != d {
					t.Fatal("P2: two answers of Best share memory")
				}
				isBest(t, x, n, was, number(c))
				a, _ = Even(x, n)
				b, _ = Even(x, n)
				was = slices.Clone(a)
				overwrite(b)
				again, _ := Even(x, n)
				if !slices.Equal(a, was) || !slices.Equal(again, was) {
					t.Fatal("P2: two answers of Even share memory")
				}
			}
		}
	}
}

// TestP1OfAnything: every call ends, whatever it is given.
func TestP1OfAnything(t *testing.T) {
	next := counter()
	number := func() int {
		return []int{int(next()), int(next()%260) - 64, math.MinInt, math.MaxInt, int(next() % 5)}[next()%5]
	}
	anyPrefix := func() api.Prefix {
		return api.Prefix{Addr: api.Word{Hi: next() & next() << (next() % 64), Lo: next() & next() << (next() % 64)}, Len: number()}
	}
	for range 3000 {
		x := api.Table{W: number()}
		if next()%4 > 0 {
			x.W = families[next()%2]
		}
		for range next() % 4 {
			x.Routes = append(x.Routes, api.Route{At: anyPrefix(), Hop: number()})
		}
		if next()%2 == 0 {
			x.Routes = smallSet("0", "1", int(next()%128)).table(32).Routes
		}
		l, _ := Best(x, number())
		for range next() % 3 {
			l = append(l, api.Stride{At: anyPrefix(), Bits: number()})
		}
		Least(x, number())
		Even(x, number())
		Check(x, l)
	}
}
