package trie

import (
	"slices"
	"testing"

	"turnpike/api"
	"turnpike/prefix"
)

// TestMaxEntries: just so many routes of 20 bits, one beside the other: a tree with both kids everywhere.
func TestMaxEntries(t *testing.T) {
	const length = 20
	for _, family := range families {
		x := grown(t, api.Table{W: family, Routes: full()})
		if x.Len() != 2*api.MaxEntries-1 || x.Count(0) != api.MaxEntries || x.Height(0) != length {
			t.Fatalf("P801: %d nodes, Count %d, Height %d", x.Len(), x.Count(0), x.Height(0))
		}
		i := 0
		for n := range x.Down(0, length) {
			r := full()[i]
			if p, ok := x.At(n); p != r.At || !ok || x.Hop(n) != r.Hop || x.Count(n) != 1 || x.Height(n) != 0 || x.Kid(n, 0) != -1 || x.Kid(n, 1) != -1 {
				t.Fatalf("P802: node %d is %v, want %v", n, p, r)
			}
			if i%97 == 0 && (x.Find(r.At) != n || x.Lookup(prefix.Last(family, r.At)) != r.Hop) {
				t.Fatalf("P803: Find(%v) = %d, want %d", r.At, x.Find(r.At), n)
			}
			i++
		}
		if i != api.MaxEntries {
			t.Fatalf("P803: %d nodes below", i)
		}
		for n := 0; n < x.Len(); n += 1 + n%1013 {
			p, _ := x.At(n)
			high := -1
			if p.Len < length {
				high = n + 1<<(length-p.Len)
			}
			if x.Kid(n, 1) != high || x.Count(n) != 1<<(length-p.Len) || x.Height(n) != length-p.Len {
				t.Fatalf("P802: node %d of %v: Kid %d, Count %d, Height %d", n, p, x.Kid(n, 1), x.Count(n), x.Height(n))
			}
		}
	}
}

// TestManyNodes: routes as long as an address, thin at their ends, so that most nodes have one kid.
func TestManyNodes(t *testing.T) {
	const ends, bits = 1 << 15, 15
	for _, family := range families {
		y := api.Table{W: family}
		for i := range uint64(ends) {
			// Behind the first bits there stand ones, so that the ways go by both bits.
			w := api.Word{Hi: i<<(64-bits) | (1<<(64-bits)-1)&^(1<<32-1)}
			if family == 128 {
				w = api.Word{Hi: i<<(64-bits) | 0xffff, Lo: i}
			}
			y.Routes = append(y.Routes, api.Route{At: api.Prefix{Addr: w, Len: family}, Hop: 1 + int(i)})
		}
		x := grown(t, y)
		if want := 2*ends - 1 + ends*(family-bits); x.Len() != want || x.Height(0) != family || x.Count(0) != ends {
			t.Fatalf("P801: %d nodes, want %d", x.Len(), want)
		}
		if l := slices.Collect(x.Down(0, family)); len(l) != ends || x.Hop(l[ends-1]) != ends || l[ends-1] != x.Len()-1 || l[0] != family {
			t.Fatalf("P803: %d nodes below", len(l))
		}
		for i, r := range y.Routes {
			n := x.Find(r.At)
			if p, ok := x.At(n); p != r.At || !ok || x.Hop(n) != r.Hop || n != (i+1)*(family-bits)+firstsAhead(i, bits) {
				t.Fatalf("P805: route %d stands at %d, %v", i, n, p)
			}
			if x.Lookup(r.At.Addr) != r.Hop {
				t.Fatalf("P807: Lookup of %v", r)
			}
		}
	}
}

// firstsAhead tells how many nodes of 1 to so many bits there are up to that of the number i, itself among them, where there is one for each number.
func firstsAhead(i, bits int) int {
	n := 0
	for length := 1; length <= bits; length++ {
		n += i>>(bits-length) + 1
	}
	return n
}
