package mtrie

import (
	"slices"
	"testing"

	"turnpike/api"
	"turnpike/cost"
	"turnpike/prefix"
	"turnpike/stride"
	"turnpike/table"
)

// isRightOf asks for what P1105 says of a great table: that Check tells the plan's depth, Slots its cost, and that addresses at the routes' edges, and some others, go where the table leads them.
func isRightOf(t *testing.T, x api.Table, l []api.Stride) []api.Node {
	t.Helper()
	nodes := buildOf(t, x, l)
	spent, depth, e := stride.Check(x, l)
	d, f := Check(x.W, nodes)
	c, g := Slots(nodes)
	if e != api.OK || f != api.OK || g != api.OK || d != depth || c != spent || len(nodes) != len(l) {
		t.Fatalf("P1105: %d nodes of %d routes by %d strides: %v, %v, %v: %d, %v, want %d, %v", len(nodes), len(x.Routes), len(l), e, f, g, d, c, depth, spent)
	}
	next := counter()
	for i := range 1200 {
		at := x.Routes[next()%uint64(len(x.Routes))].At
		for _, w := range []api.Word{prefix.First(at), prefix.Last(x.W, at), ofBits(spell(api.Word{Hi: next(), Lo: next()}, x.W))} {
			want := table.Lookup(x, w)
			// Lookup goes over the whole list ahead of each one: so most are asked of what comes behind that.
			if i%400 == 0 {
				if h, e := Lookup(x.W, nodes, w); h != want || e != api.OK {
					t.Fatalf("P1105: Lookup of %v: %d, %v, want %d", w, h, e, want)
				}
			}
			if h := walk(nodes, w); h != want {
				t.Fatalf("P1105: %v goes to %d, want %d", w, h, want)
			}
		}
	}
	return nodes
}

// TestMaxEntries: just so many routes of 20 bits, one beside the other.
func TestMaxEntries(t *testing.T) {
	for _, family := range families {
		x := api.Table{W: family, Routes: full()}
		for _, bits := range []int{1, 7, family} {
			l, e := stride.Even(x, bits)
			if e != api.OK {
				t.Fatal(e)
			}
			nodes := isRightOf(t, x, l)
			runs := 0
			for _, n := range nodes {
				runs += len(n.Runs)
			}
			// No two neighbours lead to one next hop: so each route has a run, and each node but node 0.
			if runs != api.MaxEntries+len(nodes)-1 {
				t.Errorf("P1101: by %d: %d runs of %d nodes", bits, runs, len(nodes))
			}
		}
	}
}

// TestOneHop: routes that lead to one next hop, as many as there may be, are one run.
func TestOneHop(t *testing.T) {
	x := api.Table{W: 128, Routes: slices.Clone(full())}
	for i := range x.Routes {
		x.Routes[i].Hop = 9
	}
	nodes := isRightOf(t, x, []api.Stride{{Bits: 20}})
	if !like(nodes, nodesOf("20 0=9")) {
		t.Errorf("P1101: %d runs", len(nodes[0].Runs))
	}
}

// TestManyRoutes: many of all lengths, and of the greatest one: most of their nodes have many more slots than routes.
func TestManyRoutes(t *testing.T) {
	next := counter()
	for _, family := range families {
		var some []api.Route
		for i := range 30000 {
			length := 8 + int(next()%uint64(family-7))
			if i%2 == 0 {
				length = family
			}
			some = append(some, api.Route{At: made(spell(api.Word{Hi: next(), Lo: next()}, length)), Hop: 1 + int(next()%65535)})
		}
		x, e := table.Canon(family, some)
		if e != api.OK {
			t.Fatal(e)
		}
		for _, depth := range []int{1, 2, 4, family} {
			l, e := stride.Best(x, depth)
			if e != api.OK {
				t.Fatal(e)
			}
			nodes := isRightOf(t, x, l)
			if depth > 1 {
				continue
			}
			power, _ := cost.Pow(family)
			if c, e := Slots(nodes); c != power || e != api.OK || len(nodes[0].Runs) <= len(x.Routes) {
				t.Errorf("P1101: %d runs, %v slots, %v", len(nodes[0].Runs), c, e)
			}
		}
	}
}
