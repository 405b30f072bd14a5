package trie

import (
	"math"
	"slices"
	"testing"

	"turnpike/api"
	"turnpike/prefix"
	"turnpike/table"
	"turnpike/word"
)

// eachTree goes over the trees of small tables and of such without a pattern.
func eachTree(t *testing.T, do func(x *Trie, table api.Table)) {
	t.Helper()
	for _, family := range families {
		tables := someTables(family)
		for _, root := range roots(family) {
			tables = append(tables, smallTrees(root, "", 7)...)
		}
		tables = append(tables, smallTrees("01", "1", 7)...)
		for _, m := range tables {
			table := m.table(family)
			do(grown(t, table), table)
		}
	}
}

// rowEnd tells the number behind the last node that lies within a node, if these stand in one row.
func rowEnd(x *Trie, n int) int {
	end := n + 1
	at, _ := x.At(n)
	for end < x.Len() {
		if p, _ := x.At(end); !prefix.Within(p, at) {
			break
		}
		end++
	}
	return end
}

func TestP805(t *testing.T) {
	low, high := 0, 0
	eachTree(t, func(x *Trie, table api.Table) {
		if p, ok := x.At(0); p != (api.Prefix{}) || !ok {
			t.Fatalf("P805: %v: node 0 has %v, %v", table, p, ok)
		}
		for n := range x.Len() {
			at, _ := x.At(n)
			if k := x.Find(at); k != n {
				t.Fatalf("P805: %v: Find of At(%d) = %d", table, n, k)
			}
			if k := x.Kid(n, 0); k != -1 {
				low++
				if k != n+1 {
					t.Fatalf("P805: %v: Kid(%d, 0) = %d", table, n, k)
				}
			}
			if k := x.Kid(n, 1); k != -1 {
				high++
				// What lies within the other kid stands between.
				between := n + 1
				if x.Kid(n, 0) != -1 {
					between = rowEnd(x, n+1)
				}
				if k != between {
					t.Fatalf("P805: %v: Kid(%d, 1) = %d, want %d", table, n, k, between)
				}
			}
		}
	})
	if low < 1000 || high < 1000 {
		t.Errorf("only %d kids by 0, only %d by 1", low, high)
	}
}

// TestP805Rows: what lies within a node stands in one row from it on, and nothing else does.
func TestP805Rows(t *testing.T) {
	for _, family := range families {
		for _, m := range someTables(family) {
			x := grown(t, m.table(family))
			if x.Len() > 600 {
				continue
			}
			for n := range x.Len() {
				at, _ := x.At(n)
				end := rowEnd(x, n)
				for k := range x.Len() {
					p, _ := x.At(k)
					if prefix.Within(p, at) != (n <= k && k < end) {
						t.Fatalf("P805: %v: node %d lies within %d, or stands in its row", m, k, n)
					}
				}
			}
		}
	}
}

// TestP805Kids: a kid's prefix is one bit longer, with that bit behind.
func TestP805Kids(t *testing.T) {
	eachTree(t, func(x *Trie, table api.Table) {
		parents := make([]int, x.Len())
		for n := range x.Len() {
			at, _ := x.At(n)
			for bit := range 2 {
				k := x.Kid(n, bit)
				if k == -1 {
					continue
				}
				parents[k]++
				p, ok := x.At(k)
				if up, _ := prefix.Parent(p); !ok || up != at || word.Bit(p.Addr, at.Len) != bit || p.Len != at.Len+1 {
					t.Fatalf("P805: %v: Kid(%d, %d) of %v is %v", table, n, bit, at, p)
				}
			}
		}
		// Each node but the first one hangs on one other.
		for k, n := range parents {
			if n != min(k, 1) {
				t.Fatalf("P805: %v: node %d is the kid of %d", table, k, n)
			}
		}
	})
}

func TestP806(t *testing.T) {
	leaves := 0
	eachTree(t, func(x *Trie, table api.Table) {
		for n := range x.Len() {
			height, count := 0, 0
			for bit := range 2 {
				if k := x.Kid(n, bit); k != -1 {
					height = max(height, 1+x.Height(k))
					count += x.Count(k)
				}
			}
			if x.Hop(n) > 0 {
				count++
			}
			if x.Height(n) != height || x.Count(n) != count {
				t.Fatalf("P806: %v: of %d: Height %d, want %d, Count %d, want %d", table, n, x.Height(n), height, x.Count(n), count)
			}
			if x.Kid(n, 0) == -1 && x.Kid(n, 1) == -1 {
				leaves++
				if none := len(table.Routes) == 0; (x.Hop(n) == 0) != none || none && n > 0 {
					t.Fatalf("P806: %v: node %d has no kids, and the next hop %d", table, n, x.Hop(n))
				}
			}
		}
		if x.Count(0) != len(table.Routes) {
			t.Fatalf("P806: %v: %d routes", table, x.Count(0))
		}
	})
	if leaves < 1000 {
		t.Errorf("only %d nodes without kids", leaves)
	}
}

func TestP807(t *testing.T) {
	next := counter()
	eachTree(t, func(x *Trie, y api.Table) {
		words := []api.Word{{}, ofBits(fill("", y.W, "1"))}
		for _, r := range y.Routes {
			words = append(words, prefix.First(r.At), prefix.Last(y.W, r.At), word.And(api.Word{Hi: next(), Lo: next()}, word.Mask(y.W)))
			if r.At.Len > 0 {
				other, _ := prefix.Sibling(r.At)
				words = append(words, prefix.First(other), prefix.Last(y.W, other))
			}
		}
		for _, w := range words {
			last, length := 0, 0
			for n := range x.Path(w) {
				at, ok := x.At(n)
				if !ok || at.Len != length || !prefix.Has(at, w) {
					t.Fatalf("P807: %v: on the path of %v stands %v", y, w, at)
				}
				length++
				if hop := x.Hop(n); hop > 0 {
					last = hop
				}
			}
			if hop := x.Lookup(w); hop != last || hop != table.Lookup(y, w) || length == 0 {
				t.Fatalf("P807: %v: Lookup(%v) = %d, on its path %d, in the table %d", y, w, hop, last, table.Lookup(y, w))
			}
		}
		if n := x.Len(); n > 1+y.W*len(y.Routes) || n < len(y.Routes) || n < 1 {
			t.Fatalf("P807: %v: %d nodes", y, n)
		}
	})
}

// TestP807Most: there are tables that have just so many nodes, and, of two routes and more, just those that they have alike fewer.
func TestP807Most(t *testing.T) {
	for _, family := range families {
		first, last := fill("", family, "0"), fill("", family, "1")
		for _, x := range []struct {
			m    hops
			want int
		}{
			{hops{}, 1}, {hops{"": 1}, 1}, {hops{first: 1}, 1 + family}, {hops{last: 1}, 1 + family}, {hops{first: 1, last: 1}, 1 + 2*family}, {hops{first: 1, turned(first): 1}, 2 + family},
			{hops{"": 1, first: 1, last: 1}, 1 + 2*family}, {hops{first: 1, last: 1, fill("01", family, "0"): 1, fill("10", family, "0"): 1}, 3 + 4*(family-1)},
		} {
			if n := grown(t, x.m.table(family)).Len(); n != x.want {
				t.Errorf("P807: %v: %d nodes, want %d", x.m, n, x.want)
			}
		}
	}
}

// TestP2TableStays: a table is not changed, its spare room neither; a wrong one as well.
func TestP2TableStays(t *testing.T) {
	for _, family := range families {
		for _, m := range someTables(family) {
			right := m.table(family).Routes
			backward := slices.Clone(right)
			slices.Reverse(backward)
			for _, routes := range [][]api.Route{right, backward, append(slices.Clone(right), mark)} {
				l, asItWas := guarded(routes)
				x, e := New(api.Table{W: family, Routes: l})
				if e == api.OK {
					for n := range x.Len() {
						_ = slices.Collect(x.Down(n, 1))
						p, _ := x.At(n)
						x.Find(p)
						x.Lookup(p.Addr)
					}
				}
				if !asItWas() {
					t.Fatal("P2: a table that is handed in is changed")
				}
			}
		}
	}
}

// TestP2TableIsNotKept: a tree and its sequences are what they were, whatever becomes of the table.
func TestP2TableIsNotKept(t *testing.T) {
	for _, family := range families {
		for _, m := range someTables(family) {
			table := m.table(family)
			want := m.tree()
			x := grown(t, table)
			down := x.Down(0, 2)
			path := x.Path(ofBits(fill("", family, "1")))
			overwrite(table.Routes)
			isTree(t, x, family, m)
			goesOver(t, down, want.down(2)[0]...)
			goesOver(t, path, want.path(fill("", family, "1"))...)
		}
	}
}

// TestP8: two trees don't see one another, of one table or of two.
func TestP8(t *testing.T) {
	for _, family := range families {
		some := someTables(family)
		var trees []*Trie
		for _, m := range some {
			trees = append(trees, grown(t, m.table(family)))
		}
		for i, m := range some {
			k := (i + 1) % len(some)
			again := grown(t, m.table(family))
			if again == trees[i] {
				t.Fatal("P8: one object is told twice")
			}
			var l []int
			for n := range again.Down(0, 2) {
				l = append(l, n)
				goesOver(t, trees[k].Down(0, 3), some[k].tree().down(3)[0]...)
				goesOver(t, trees[i].Down(0, 1), m.tree().down(1)[0]...)
			}
			goesOver(t, trees[i].Down(0, 2), l...)
			hasNodes(t, trees[i], family, m.tree())
			hasNodes(t, trees[k], family, some[k].tree())
			hasNodes(t, again, family, m.tree())
		}
	}
}

// TestP8BothFamilies: prefixes that are right in both have trees of their own.
func TestP8BothFamilies(t *testing.T) {
	m := hops{"": 1, "0101": 2, fill("", 32, "1"): 3}
	four, six := grown(t, m.table(32)), grown(t, m.table(128))
	isTree(t, four, 32, m)
	isTree(t, six, 128, m)
	w := ofBits(fill("", 33, "1"))
	if four.Lookup(w) != 0 || six.Lookup(w) != 3 {
		t.Error("P804: what is an address hangs on the family")
	}
	if p := made(fill("", 33, "1")); four.Find(p) != -1 || six.Find(p) != -1 {
		t.Error("P803: a prefix that is no node's")
	}
}

func TestP3(t *testing.T) {
	for _, family := range families {
		for _, m := range someTables(family) {
			x := grown(t, m.table(family))
			isTree(t, x, family, m)
			hasNodes(t, x, family, m.tree())
		}
	}
}

// TestP1OfAnything: every call ends, whatever it is given.
func TestP1OfAnything(t *testing.T) {
	next := counter()
	number := func() int {
		return []int{int(next()), int(next()%260) - 64, math.MinInt, math.MaxInt, int(next() % 4)}[next()%5]
	}
	anyWord := func() api.Word {
		return api.Word{Hi: next() & next() << (next() % 64), Lo: next() & next() << (next() % 64)}
	}
	told := 0
	for range 20000 {
		var y api.Table
		for range next() % 4 {
			w, n := anyWord(), int(next()%160)-16
			if p, e := prefix.Of(128, w, n); e == api.OK && next()%4 > 0 {
				w = p.Addr
			}
			y.Routes = append(y.Routes, api.Route{At: api.Prefix{Addr: w, Len: n}, Hop: int(next()%3) + int(next()%2)*65533})
		}
		y.W = []int{32, 128, 128, number(), 64, 0}[next()%6]
		x, e := New(y)
		if e != table.Check(y) || (x == nil) != (e != api.OK) {
			t.Fatalf("P801: New(%v): %v, want %v", y, e, table.Check(y))
		}
		if x == nil {
			continue
		}
		told++
		for range 8 {
			n, k, w := number(), number(), anyWord()
			x.Kid(n, k)
			x.At(n)
			x.Hop(n)
			x.Height(n)
			x.Count(n)
			x.Find(api.Prefix{Addr: w, Len: k})
			x.Lookup(w)
			_, _ = slices.Collect(x.Down(n, k)), slices.Collect(x.Path(w))
		}
	}
	if told < 2000 {
		t.Errorf("only %d trees", told)
	}
}

// TestP1OfAnEmptyObject: one that New did not make has no node.
func TestP1OfAnEmptyObject(t *testing.T) {
	x := &Trie{}
	if _, ok := x.At(0); ok || x.Len() != 0 || x.W() != 0 || x.Kid(0, 0) != -1 || x.Hop(0) != 0 || x.Height(0) != 0 || x.Count(0) != 0 || x.Find(api.Prefix{}) != -1 || x.Lookup(api.Word{}) != 0 {
		t.Error("P1: an empty tree has something")
	}
	goesOver(t, x.Down(0, 0))
	goesOver(t, x.Path(api.Word{}))
}
