package trie

import (
	"slices"
	"testing"

	"turnpike/api"
	"turnpike/prefix"
)

// someBits are by how many bits trees are gone down: the edges of the families, of bytes and of a word's halves, and beyond.
var someBits = []int{0, 1, 2, 3, 4, 5, 7, 8, 9, 16, 24, 30, 31, 32, 33, 62, 63, 64, 65, 126, 127, 128, 129}

// hasNodes asks a tree of all its nodes for what is known of them.
func hasNodes(t *testing.T, x *Trie, family int, want tree) {
	t.Helper()
	if x.Len() != len(want.nodes) || x.W() != family {
		t.Fatalf("P801: %v: %d nodes of %d, want %d of %d", want.hops, x.Len(), x.W(), len(want.nodes), family)
	}
	for n, s := range want.nodes {
		if p, ok := x.At(n); p != made(s) || !ok {
			t.Fatalf("P802: %v: At(%d) = %v, %v, want %v", want.hops, n, p, ok, made(s))
		}
		for bit, sign := range []string{"0", "1"} {
			if k := x.Kid(n, bit); k != want.find(s+sign) {
				t.Fatalf("P802: %v: Kid(%d, %d) = %d, want %d", want.hops, n, bit, k, want.find(s+sign))
			}
		}
		if hop := x.Hop(n); hop != want.hops[s] {
			t.Fatalf("P802: %v: Hop(%d) = %d, want %d", want.hops, n, hop, want.hops[s])
		}
		if h := x.Height(n); h != want.height[s] {
			t.Fatalf("P802: %v: Height(%d) = %d, want %d", want.hops, n, h, want.height[s])
		}
		if c := x.Count(n); c != want.count[s] {
			t.Fatalf("P802: %v: Count(%d) = %d, want %d", want.hops, n, c, want.count[s])
		}
	}
}

// hasWays asks a tree at all these places and addresses, and by so many bits below each node.
func hasWays(t *testing.T, x *Trie, want tree, places, words []string, bits []int) {
	t.Helper()
	for _, s := range places {
		if n := x.Find(made(s)); n != want.find(s) {
			t.Fatalf("P803: %v: Find(%s) = %d, want %d", want.hops, s, n, want.find(s))
		}
	}
	for _, more := range bits {
		for n, l := range want.down(more) {
			if got := slices.Collect(x.Down(n, more)); !slices.Equal(got, l) {
				t.Fatalf("P803: %v: Down(%d, %d) = %v, want %v", want.hops, n, more, got, l)
			}
		}
	}
	for _, s := range words {
		if hop := x.Lookup(ofBits(s)); hop != want.hops.next(s) {
			t.Fatalf("P804: %v: Lookup(%s) = %d, want %d", want.hops, s, hop, want.hops.next(s))
		}
		if got, l := slices.Collect(x.Path(ofBits(s))), want.path(s); !slices.Equal(got, l) {
			t.Fatalf("P804: %v: Path(%s) = %v, want %v", want.hops, s, got, l)
		}
	}
}

// isTree asks for all that is known of a table's tree.
func isTree(t *testing.T, x *Trie, family int, m hops) {
	t.Helper()
	want := m.tree()
	hasNodes(t, x, family, want)
	hasWays(t, x, want, want.places(family), want.addresses(family), someBits)
}

func TestP801To804OfSomeTables(t *testing.T) {
	for _, family := range families {
		for _, m := range someTables(family) {
			isTree(t, grown(t, m.table(family)), family, m)
		}
	}
}

// TestP801To804OfSmallTrees: all sets of the nodes of a small tree, in several places, also with nodes between that no route stands at.
func TestP801To804OfSmallTrees(t *testing.T) {
	for _, family := range families {
		for i, root := range roots(family) {
			for _, gap := range []string{"", "10", "0"} {
				for set, m := range smallTrees(root, gap, 7) {
					x, want := grown(t, m.table(family)), m.tree()
					hasNodes(t, x, family, want)
					// All the rest is asked of a share of the sets: the roots together take all of them.
					if (set+i)%5 == 0 {
						isTree(t, x, family, m)
					}
				}
			}
		}
		for _, m := range smallTrees("", "", 12) {
			isTreeInBrief(t, grown(t, m.table(family)), family, m)
		}
	}
}

// isTreeInBrief asks for all that is known of the tree of a table without long prefixes.
func isTreeInBrief(t *testing.T, x *Trie, family int, m hops) {
	t.Helper()
	want := m.tree()
	hasNodes(t, x, family, want)
	var words []string
	places := []string{"0000", "0100", "1011", "1111"}
	for _, s := range []string{"000", "001", "010", "011", "100", "101", "110", "111"} {
		places = append(places, s[:1], s[:2], s)
		words = append(words, fill(s, family, "0"), fill(s, family, "1"))
	}
	hasWays(t, x, want, places, words, []int{0, 1, 2, 3, 4})
}

// TestP801Order: nodes stand in the order of their prefixes, whatever their length.
func TestP801Order(t *testing.T) {
	for _, family := range families {
		for _, m := range someTables(family) {
			x := grown(t, m.table(family))
			for n := 1; n < x.Len(); n++ {
				a, _ := x.At(n - 1)
				b, ok := x.At(n)
				if !ok || prefix.Cmp(a, b) != -1 || prefix.Check(family, b) != api.OK {
					t.Fatalf("P801: %v: %v stands ahead of %v", m, a, b)
				}
			}
		}
	}
}

// row is what is told of a node.
type row struct {
	at                 string
	low, high          int
	hop, height, count int
}

func TestP801And802ByHand(t *testing.T) {
	for _, x := range []struct {
		family int
		text   string
		want   []row
	}{
		// The chapter's.
		{32, "0.0.0.0/2 3 128.0.0.0/1 1 192.0.0.0/2 2", []row{
			{"0.0.0.0/0", 1, 3, 0, 2, 3}, {"0.0.0.0/1", 2, -1, 0, 1, 1}, {"0.0.0.0/2", -1, -1, 3, 0, 1}, {"128.0.0.0/1", -1, 4, 1, 1, 2}, {"192.0.0.0/2", -1, -1, 2, 0, 1},
		}},
		// None, the prefix of length 0 alone.
		{32, "", []row{{"0.0.0.0/0", -1, -1, 0, 0, 0}}},
		{128, "", []row{{"::/0", -1, -1, 0, 0, 0}}},
		{32, "0.0.0.0/0 65535", []row{{"0.0.0.0/0", -1, -1, 65535, 0, 1}}},
		{128, "::/0 1", []row{{"::/0", -1, -1, 1, 0, 1}}},
		// One kid alone, both kids.
		{32, "0.0.0.0/1 7", []row{{"0.0.0.0/0", 1, -1, 0, 1, 1}, {"0.0.0.0/1", -1, -1, 7, 0, 1}}},
		{32, "128.0.0.0/1 7", []row{{"0.0.0.0/0", -1, 1, 0, 1, 1}, {"128.0.0.0/1", -1, -1, 7, 0, 1}}},
		{128, "::/1 7 8000::/1 8", []row{{"::/0", 1, 2, 0, 1, 2}, {"::/1", -1, -1, 7, 0, 1}, {"8000::/1", -1, -1, 8, 0, 1}}},
		// Within one another, unlike high.
		{32, "0.0.0.0/0 1 0.0.0.0/3 2 128.0.0.0/1 3", []row{
			{"0.0.0.0/0", 1, 4, 1, 3, 3}, {"0.0.0.0/1", 2, -1, 0, 2, 1}, {"0.0.0.0/2", 3, -1, 0, 1, 1}, {"0.0.0.0/3", -1, -1, 2, 0, 1}, {"128.0.0.0/1", -1, -1, 3, 0, 1},
		}},
		{128, "::/1 5 e000::/3 5", []row{
			{"::/0", 1, 2, 0, 3, 2}, {"::/1", -1, -1, 5, 0, 1}, {"8000::/1", -1, 3, 0, 2, 1}, {"c000::/2", -1, 4, 0, 1, 1}, {"e000::/3", -1, -1, 5, 0, 1},
		}},
	} {
		tree := grown(t, read(x.family, x.text))
		if tree.Len() != len(x.want) || tree.W() != x.family {
			t.Fatalf("P801: %q: %d nodes of %d", x.text, tree.Len(), tree.W())
		}
		for n, want := range x.want {
			p, _ := tree.At(n)
			at, _ := prefix.Text(x.family, p)
			if got := (row{at, tree.Kid(n, 0), tree.Kid(n, 1), tree.Hop(n), tree.Height(n), tree.Count(n)}); got != want {
				t.Errorf("P802: %q: node %d is %v, want %v", x.text, n, got, want)
			}
		}
	}
}

// TestP801GreatestLength: one route as long as an address brings a node for each bit.
func TestP801GreatestLength(t *testing.T) {
	for _, family := range families {
		for _, sign := range []string{"0", "1"} {
			s := fill("", family, sign)
			x := grown(t, hops{s: 65535}.table(family))
			if x.Len() != family+1 || x.Height(0) != family || x.Hop(family) != 65535 || x.Hop(family-1) != 0 || x.Count(family) != 1 || x.Height(family) != 0 {
				t.Errorf("P801: %d nodes of a route of %d bits", x.Len(), family)
			}
			for n := range family {
				low, high := n+1, -1
				if sign == "1" {
					low, high = high, low
				}
				if x.Kid(n, 0) != low || x.Kid(n, 1) != high || x.Height(n) != family-n || x.Count(n) != 1 {
					t.Errorf("P802: node %d of %s", n, s)
				}
			}
			if x.Kid(family, 0) != -1 || x.Kid(family, 1) != -1 {
				t.Errorf("P802: a kid of %s", s)
			}
		}
	}
}

// TestP801WrongTables: P4 and P7, too.
func TestP801WrongTables(t *testing.T) {
	for _, family := range families {
		for _, w := range wrongTables(family) {
			if x, e := New(w.x); x != nil || e != w.e {
				t.Errorf("P801: New of %d routes of %d: %v, %v, want %v", len(w.x.Routes), w.x.W, x, e, w.e)
			}
		}
	}
	// Right in the one family, but not in the other one.
	for _, x := range []api.Route{{At: made(fill("", 33, "0")), Hop: 1}, {At: made(fill("", 128, "1")), Hop: 1}} {
		grown(t, api.Table{W: 128, Routes: []api.Route{x}})
		if tree, e := New(api.Table{W: 32, Routes: []api.Route{x}}); tree != nil || e != api.ErrLen {
			t.Errorf("P801: New of %v by 32: %v", x, e)
		}
	}
}

func TestP802NoNode(t *testing.T) {
	for _, family := range families {
		for _, m := range someTables(family) {
			x := grown(t, m.table(family))
			for _, n := range noNodes(x.Len()) {
				if p, ok := x.At(n); p != (api.Prefix{}) || ok {
					t.Fatalf("P802: %v: At(%d) = %v, %v", m, n, p, ok)
				}
				if x.Hop(n) != 0 || x.Height(n) != 0 || x.Count(n) != 0 {
					t.Fatalf("P802: %v: of %d: Hop %d, Height %d, Count %d", m, n, x.Hop(n), x.Height(n), x.Count(n))
				}
				for _, bit := range append([]int{0, 1}, noBits...) {
					if k := x.Kid(n, bit); k != -1 {
						t.Fatalf("P802: %v: Kid(%d, %d) = %d", m, n, bit, k)
					}
				}
			}
		}
	}
}

func TestP802NoBit(t *testing.T) {
	for _, family := range families {
		for _, m := range edges(family) {
			x := grown(t, m.table(family))
			for n := range x.Len() {
				for _, bit := range noBits {
					if k := x.Kid(n, bit); k != -1 {
						t.Fatalf("P802: %v: Kid(%d, %d) = %d", m, n, bit, k)
					}
				}
			}
		}
	}
}

// TestP802HopBounds: the edges of next hops are told as they are.
func TestP802HopBounds(t *testing.T) {
	for _, family := range families {
		for _, hop := range []int{1, 2, 127, 128, 255, 256, 257, 32767, 32768, 65534, 65535} {
			for _, s := range []string{"", "1", fill("", family, "1")} {
				x := grown(t, hops{s: hop}.table(family))
				if got := x.Hop(len(s)); got != hop || x.Lookup(ofBits(fill("", family, "1"))) != hop {
					t.Errorf("P802: Hop is %d, want %d", got, hop)
				}
			}
		}
	}
}
