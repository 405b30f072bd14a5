package mtrie

import (
	"math"
	"math/big"
	"slices"
	"strings"
	"testing"

	"turnpike/addr"
	"turnpike/api"
	"turnpike/stride"
	"turnpike/table"
)

// buildOf is Build of a plan.
func buildOf(t *testing.T, x api.Table, l []api.Stride) []api.Node {
	t.Helper()
	nodes, e := Build(x, l)
	if e != api.OK {
		t.Fatalf("P1101: %v by %v: %v", x, l, e)
	}
	return nodes
}

// follows asks for all that P1105 says but for the lookups.
func follows(t *testing.T, family int, m set, tree tree, l []api.Stride) []api.Node {
	t.Helper()
	nodes := buildOf(t, m.table(family), l)
	p, ok := planOf(family, l)
	if !ok || !tree.isPlan(p) {
		t.Fatalf("%v is no plan of %v", l, m)
	}
	depth, e := Check(family, nodes)
	if e != api.OK || depth != p.depth() || len(nodes) != max(1, len(l)) {
		t.Fatalf("P1105: %v by %v: %v: Check: %d, %v, want %d", m, l, nodes, depth, e, p.depth())
	}
	want := p.cost()
	if len(p) == 0 {
		want = big.NewInt(1)
	}
	if c, e := Slots(nodes); e != api.OK || number(c).Cmp(want) != 0 {
		t.Fatalf("P1105: %v by %v: Slots: %v, %v, want %v", m, l, c, e, want)
	}
	for i, n := range nodes {
		s := ""
		if len(l) > 0 {
			s = spell(l[i].At.Addr, l[i].At.Len)
		}
		if most := 2*tree.within(m, s) + 1; len(n.Runs) > most {
			t.Fatalf("P1105: %v by %v: node %d has %d runs, %d are the most", m, l, i, len(n.Runs), most)
		}
	}
	return nodes
}

// within tells how many routes and open nodes lie within a prefix.
func (x tree) within(m set, s string) int {
	n := 0
	for at := range m {
		if strings.HasPrefix(at, s) {
			n++
		}
	}
	for at := range x.height {
		if x.open(at) && strings.HasPrefix(at, s) {
			n++
		}
	}
	return n
}

// TestP1105 (T1): tables of both families by plans of all kinds; the addresses are those at the edges of routes and of runs, and some others.
func TestP1105(t *testing.T) {
	next := counter()
	for _, family := range families {
		for _, m := range someSets(family) {
			x, tree := m.table(family), m.tree()
			plans := [][]api.Stride{}
			for _, p := range tree.somePlans(next) {
				plans = append(plans, p.strides())
			}
			for _, n := range []int{1, 2, 3, 4, 8, family} {
				best, _ := stride.Best(x, n)
				even, _ := stride.Even(x, n)
				plans = append(plans, best, even)
			}
			addresses := m.addresses(family, next)
			for _, l := range plans {
				nodes := follows(t, family, m, tree, l)
				cost, depth, e := stride.Check(x, l)
				d, f := Check(family, nodes)
				c, g := Slots(nodes)
				if e != api.OK || f != api.OK || g != api.OK || d != depth || c != cost && len(l) > 0 {
					t.Fatalf("P1105: %v by %v: %v, %d, stride.Check: %v, %d", m, l, c, d, cost, depth)
				}
				for range 8 {
					s := wayDown(next, family, nodes)
					isAnswered(t, family, nodes, s, m.hop(s))
				}
				for i, s := range addresses {
					if len(addresses) < 60 || i%7 == len(l)%7 {
						isAnswered(t, family, nodes, s, m.hop(s))
					}
				}
			}
		}
	}
}

// TestP1105SmallTrees (T1): small tables by all their plans, by addresses of all first bits.
func TestP1105SmallTrees(t *testing.T) {
	for _, family := range families {
		for i, m := range append(smallSets("", "", 7), smallSets("1", "0", 5)...) {
			tree := m.tree()
			for _, p := range tree.plans() {
				nodes := follows(t, family, m, tree, p.strides())
				for bits := range uint64(1 << 6) {
					s := fill(spell(api.Word{Hi: bits << 58}, 6), family, []string{"0", "1"}[i%2])
					isAnswered(t, family, nodes, s, m.hop(s))
				}
			}
		}
	}
}

// TestP1105Tables (T1): each address has its next hop in the table, as package table tells it.
func TestP1105Tables(t *testing.T) {
	text := "0.0.0.0/0 1\n10.0.0.0/8 2\n10.1.0.0/16 3\n10.1.2.0/24 4\n10.1.2.3/32 5\n10.1.2.4/30 6\n192.168.0.0/16 7\n192.168.128.0/17 2\n224.0.0.0/4 8\n255.255.255.255/32 9\n"
	x, f := table.Parse(32, text)
	if f != (api.Fault{}) {
		t.Fatal(f)
	}
	for _, depth := range []int{1, 2, 3, 4, 5, 32} {
		l, e := stride.Best(x, depth)
		if e != api.OK {
			t.Fatal(e)
		}
		nodes := buildOf(t, x, l)
		for _, s := range []string{"0.0.0.0", "9.255.255.255", "10.0.0.0", "10.0.255.255", "10.1.0.0", "10.1.1.255", "10.1.2.0", "10.1.2.2", "10.1.2.3", "10.1.2.4", "10.1.2.7", "10.1.2.8", "10.1.3.0", "10.2.0.0", "11.0.0.0", "192.167.255.255", "192.168.0.0", "192.168.127.255", "192.168.128.0", "192.169.0.0", "223.255.255.255", "224.0.0.0", "239.255.255.255", "240.0.0.0", "255.255.255.254", "255.255.255.255"} {
			w, _ := addr.Parse(32, s)
			if h, e := Lookup(32, nodes, w); h != table.Lookup(x, w) || h == 0 || e != api.OK {
				t.Errorf("P1105: by depth %d: Lookup of %s: %d, %v, want %d", depth, s, h, e, table.Lookup(x, w))
			}
		}
	}
}

// TestP1105MostRuns: tables whose nodes have just about as many runs as they may.
func TestP1105MostRuns(t *testing.T) {
	for _, family := range families {
		m := set{}
		for i := range uint64(32) {
			// Each leads elsewhere than what lies around it, and none lies beside another one.
			m[spell(api.Word{Hi: i << 59}, 5)+"01"] = 1 + int(i)
		}
		nodes := follows(t, family, m, m.tree(), m.tree().even(7).strides())
		if len(nodes) != 1 || len(nodes[0].Runs) != 65 {
			t.Errorf("P1105: %v", nodes)
		}
	}
}

// TestP2HandedIn: what is handed in is not changed, its spare room neither; what is wrong as well.
func TestP2HandedIn(t *testing.T) {
	next := counter()
	for _, family := range families {
		for _, m := range someSets(family) {
			right := m.table(family).Routes
			backward := slices.Clone(right)
			slices.Reverse(backward)
			for _, routes := range [][]api.Route{right, backward, append(slices.Clone(right), mark)} {
				l, asItWas := guarded(routes, mark, equal)
				x := api.Table{W: family, Routes: l}
				for _, p := range m.tree().somePlans(next)[:5] {
					for _, strides := range [][]api.Stride{p.strides(), append(p.strides(), markStride)} {
						handed, asTheyWere := guarded(strides, markStride, equal)
						Build(x, handed)
						if !asTheyWere() || !asItWas() {
							t.Fatal("P2: a plan or a table that is handed in is changed")
						}
					}
				}
			}
		}
	}
	for i := range 3000 {
		l := rightList(next)
		for range i % 3 {
			if len(l) > 0 {
				l = spoil(next, l)
			}
		}
		handed, asTheyWere := guardedNodes(l)
		Check(families[i%2], handed)
		Lookup(families[i%2], handed, api.Word{Hi: next() << 32})
		Slots(handed)
		if !asTheyWere() {
			t.Fatal("P2: nodes that are handed in are changed")
		}
	}
}

// overwrite puts marks over all of a list, its spare room too.
func overwrite[T any](l []T, mark T) {
	l = l[:cap(l)]
	for i := range l {
		l[i] = mark
	}
}

// TestP2Answers: an answer is new memory, and no two lists of it share any: whatever becomes of one of them, of what was handed in, of another answer, it is what it was; and the same calls answer the same (P3).
func TestP2Answers(t *testing.T) {
	next := counter()
	for _, family := range families {
		for _, m := range someSets(family) {
			for _, p := range m.tree().somePlans(next) {
				x, l := m.table(family), p.strides()
				a, b := buildOf(t, x, l), buildOf(t, x, l)
				was := cloned(a)
				overwrite(x.Routes, mark)
				overwrite(l, markStride)
				for i := range b {
					overwrite(b[i].Runs, markRun)
					b[i].Runs = was[i].Runs
					if !like(b, was) {
						t.Fatal("P2: two lists of one answer share memory")
					}
				}
				overwrite(b, markNode)
				if !like(a, was) || !like(buildOf(t, m.table(family), p.strides()), was) {
					t.Fatal("P2: two answers share memory")
				}
			}
		}
	}
}

// TestP2NoList: no list and an empty one are the same.
func TestP2NoList(t *testing.T) {
	for _, family := range families {
		for _, l := range [][]api.Node{nil, {}, make([]api.Node, 0, 9)} {
			_, e := Check(family, l)
			_, f := Lookup(family, l, api.Word{})
			c, g := Slots(l)
			if e != api.ErrNone || f != api.ErrNone || g != api.OK || c != (api.Cost{}) {
				t.Errorf("P2: %v, %v, %v, %v", e, f, c, g)
			}
		}
		for _, runs := range [][]api.Run{nil, {}, make([]api.Run, 0, 9)} {
			if _, e := Check(family, []api.Node{{Bits: 1, Runs: runs}}); e != api.ErrOrder {
				t.Errorf("P2: %v", e)
			}
		}
		for _, l := range [][]api.Stride{nil, {}, make([]api.Stride, 0, 9)} {
			for _, routes := range [][]api.Route{nil, {}, make([]api.Route, 0, 9)} {
				if nodes, e := Build(api.Table{W: family, Routes: routes}, l); e != api.OK || !like(nodes, nodesOf("0 0=0")) {
					t.Errorf("P1101: %v, %v", nodes, e)
				}
			}
		}
	}
}

// TestP1OfAnything: every call ends, whatever it is given.
func TestP1OfAnything(t *testing.T) {
	next := counter()
	anyNumber := func() int {
		return []int{int(next()), int(next()%260) - 64, math.MinInt, math.MaxInt, int(next() % 5)}[next()%5]
	}
	anyWord := func() api.Word {
		return api.Word{Hi: next() & next() << (next() % 64), Lo: next() & next() << (next() % 64)}
	}
	for i := range 5000 {
		family := anyNumber()
		if next()%4 > 0 {
			family = families[next()%2]
		}
		x := api.Table{W: family}
		for range next() % 4 {
			x.Routes = append(x.Routes, api.Route{At: api.Prefix{Addr: anyWord(), Len: anyNumber()}, Hop: anyNumber()})
		}
		if next()%2 == 0 {
			x.Routes = smallSet("0", "1", int(next()%128)).table(32).Routes
		}
		plan, _ := stride.Best(x, 1+i%5)
		for range next() % 3 {
			plan = append(plan, api.Stride{At: api.Prefix{Addr: anyWord(), Len: anyNumber()}, Bits: anyNumber()})
		}
		l, _ := Build(x, plan)
		for range next() % 4 {
			n := api.Node{Bits: anyNumber()}
			for k := range next() % 4 {
				r := api.Run{From: api.Word{Lo: k}, Kid: next()%2 == 0, N: anyNumber()}
				if next()%3 == 0 {
					r.From = anyWord()
				}
				n.Runs = append(n.Runs, r)
			}
			l = append(l, n)
		}
		isChecked(t, family, l)
		Lookup(family, l, anyWord())
		Slots(l)
	}
}
