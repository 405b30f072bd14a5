package mtrie

import (
	"math"
	"slices"
	"strings"
	"testing"

	"turnpike/api"
	"turnpike/stride"
)

// isBuilt asks that Build tells what P1101 says of a plan; ErrPlan of what is none.
func isBuilt(t *testing.T, family int, m set, tree tree, l []api.Stride) bool {
	t.Helper()
	got, e := Build(m.table(family), l)
	p, ok := planOf(family, l)
	if !ok || !tree.isPlan(p) {
		if len(got) != 0 || e != api.ErrPlan {
			t.Fatalf("P1101: %v: Build by %v: %v, %v, but it is no plan", m, l, got, e)
		}
		return false
	}
	if want := m.built(p); e != api.OK || !like(got, want) {
		t.Fatalf("P1101: %v: Build by %v: %v, %v, want %v", m, l, got, e, want)
	}
	return true
}

// TestP1101ByHand: the chapter's examples, and some others.
func TestP1101ByHand(t *testing.T) {
	for _, x := range []struct{ table, plan, want string }{
		{"0.0.0.0/1 1", "0.0.0.0/0 1", "1 0=1 1=0"},
		{"0.0.0.0/0 9 0.0.0.0/2 1", "0.0.0.0/0 2", "2 0=1 1=9"},
		{"0.0.0.0/0 9 0.0.0.0/2 1", "0.0.0.0/0 1 0.0.0.0/1 1", "1 0>1 1=9; 1 0=1 1=9"},
		// The empty plan: with a route of length 0, and without.
		{"", "", "0 0=0"}, {"0.0.0.0/0 9", "", "0 0=9"}, {"0.0.0.0/0 65535", "", "0 0=65535"},
		{"128.0.0.0/1 1", "0.0.0.0/0 1", "1 0=0 1=1"},
		{"0.0.0.0/1 7 128.0.0.0/1 7", "0.0.0.0/0 1", "1 0=7"},
		{"0.0.0.0/0 7 128.0.0.0/1 7", "0.0.0.0/0 1", "1 0=7"},
		// What is not led by a longer route is led by the one above, also where that stands ahead of the node.
		{"0.0.0.0/1 7 0.0.0.0/2 1", "0.0.0.0/0 1 0.0.0.0/1 1", "1 0>1 1=0; 1 0=1 1=7"},
		{"0.0.0.0/0 9 0.0.0.0/1 7 64.0.0.0/3 1", "0.0.0.0/0 2 64.0.0.0/2 1", "2 0=7 1>1 2=9; 1 0=1 1=7"},
		{"0.0.0.0/0 9 0.0.0.0/3 1", "0.0.0.0/0 1 0.0.0.0/1 1 0.0.0.0/2 1", "1 0>1 1=9; 1 0>2 1=9; 1 0=1 1=9"},
		// A route on a node that is open stands behind it, not in the slot.
		{"64.0.0.0/2 5 64.0.0.0/3 6", "0.0.0.0/0 2 64.0.0.0/2 1", "2 0=0 1>1 2=0; 1 0=6 1=5"},
		// Two nodes beside one another are two runs; equal answers beside one another are one.
		{"0.0.0.0/2 1 128.0.0.0/2 1", "0.0.0.0/0 1 0.0.0.0/1 1 128.0.0.0/1 1", "1 0>1 1>2; 1 0=1 1=0; 1 0=1 1=0"},
		{"0.0.0.0/2 1 128.0.0.0/3 2", "0.0.0.0/0 1 0.0.0.0/1 1 128.0.0.0/1 1 128.0.0.0/2 1", "1 0>1 1>2; 1 0=1 1=0; 1 0>3 1=0; 1 0=2 1=0"},
		{"32.0.0.0/3 1 64.0.0.0/3 1 160.0.0.0/3 2 192.0.0.0/2 2", "0.0.0.0/0 3", "3 0=0 1=1 3=0 5=2"},
		// Nodes' numbers go by their prefixes, not by how far down they stand.
		{"0.0.0.0/3 1 128.0.0.0/3 2", "0.0.0.0/0 1 0.0.0.0/1 1 0.0.0.0/2 1 128.0.0.0/1 2", "1 0>1 1>3; 1 0>2 1=0; 1 0=1 1=0; 2 0=2 1=0"},
		{"10.1.2.3/32 4", "0.0.0.0/0 32", "32 0=0 167838211=4 167838212=0"},
		{"255.255.255.255/32 4", "0.0.0.0/0 32", "32 0=0 4294967295=4"},
		{"10.0.0.0/8 1 10.1.2.3/32 4 11.0.0.0/8 1", "0.0.0.0/0 8 10.0.0.0/8 24", "8 0=0 10>1 11=1 12=0; 24 0=1 66051=4 66052=1"},
	} {
		m, l := read4(x.table), stridesOf(x.plan)
		if got, e := Build(m.table(32), l); e != api.OK || !like(got, nodesOf(x.want)) {
			t.Errorf("P1101: %s by %s: %v, %v, want %s", x.table, x.plan, got, e, x.want)
		}
		isBuilt(t, 32, m, m.tree(), l)
	}
}

// TestP1101WideSlots: nodes of so many bits that nobody could go through their slots.
func TestP1101WideSlots(t *testing.T) {
	for _, x := range []struct {
		m    set
		want string
	}{
		{setOf(fill("", 128, "0")), "128 0=1 1=0"},
		{setOf(fill("", 128, "1")), "128 0=0 0xffffffffffffffffffffffffffffffff=1"},
		{setOf(turned(fill("", 128, "0"))), "128 0=0 1=1 2=0"},
		{setOf(fill("1", 128, "0"), ""), "128 0=2 0x80000000000000000000000000000000=1 0x80000000000000000000000000000001=2"},
		{setOf(fill("", 64, "0")+fill("", 64, "1"), "0"), "128 0=2 0xffffffffffffffff=1 0x10000000000000000=2 0x80000000000000000000000000000000=0"},
		{setOf(fill("", 100, "0")), "100 0=1 1=0"},
		{setOf(fill("", 65, "1")), "65 0=0 0x1ffffffffffffffff=1"},
		{set{"0": 5, "1": 5, fill("", 128, "1"): 5}, "128 0=5"},
	} {
		tree := x.m.tree()
		if got, e := Build(x.m.table(128), tree.even(128).strides()); e != api.OK || !like(got, nodesOf(x.want)) {
			t.Errorf("P1101: %v: %v, %v, want %s", x.m, got, e, x.want)
		}
	}
	// One way down by all strides of two nodes.
	s := strings.Repeat("0110", 32)
	m := setOf(s, s[:50], "")
	for bits := 1; bits < 128; bits++ {
		isBuilt(t, 128, m, m.tree(), plan{"": bits, s[:bits]: 128 - bits}.strides())
	}
}

// TestP1101AsTheChapterSays: tables of both families, by plans of all kinds.
func TestP1101AsTheChapterSays(t *testing.T) {
	next := counter()
	for _, family := range families {
		for _, m := range someSets(family) {
			tree := m.tree()
			for _, p := range tree.somePlans(next) {
				if !isBuilt(t, family, m, tree, p.strides()) {
					t.Fatalf("%v is a plan of %v", p, m)
				}
			}
		}
	}
}

// TestP1101SmallTrees: small tables by all their plans.
func TestP1101SmallTrees(t *testing.T) {
	n := 0
	for _, gap := range []string{"", "0"} {
		for i, m := range smallSets("", gap, 7) {
			tree := m.tree()
			for _, p := range tree.plans() {
				isBuilt(t, families[i%2], m, tree, p.strides())
				n++
			}
		}
	}
	for bits := 5; bits < 1<<15; bits += 17 {
		m := smallSet("", "", bits)
		tree := m.tree()
		for _, p := range tree.plans() {
			isBuilt(t, families[bits%2], m, tree, p.strides())
			n++
		}
	}
	if n < 10000 {
		t.Errorf("only %d plans", n)
	}
}

// TestP1101ByStride: the plans of package stride, which knows nothing of these tests.
func TestP1101ByStride(t *testing.T) {
	for _, family := range families {
		for _, m := range someSets(family) {
			x, tree := m.table(family), m.tree()
			for _, n := range []int{1, 2, 3, 7, family} {
				best, e := stride.Best(x, n)
				even, f := stride.Even(x, n)
				if e != api.OK || f != api.OK || !isBuilt(t, family, m, tree, best) || !isBuilt(t, family, m, tree, even) {
					t.Fatalf("P1101: %v by %d: %v, %v", m, n, e, f)
				}
			}
		}
	}
}

// spoilt are lists that come of one by a change, most of them no plans.
func spoilt(family int, tree tree, l []api.Stride) [][]api.Stride {
	var all [][]api.Stride
	for i, x := range l {
		all = append(all, slices.Delete(slices.Clone(l), i, i+1), slices.Insert(slices.Clone(l), i, x), l[:i])
		if i > 0 {
			swapped := slices.Clone(l)
			swapped[i], swapped[i-1] = swapped[i-1], swapped[i]
			all = append(all, swapped)
		}
		s := spell(x.At.Addr, x.At.Len)
		height := tree.height[s]
		for _, bits := range []int{math.MinInt, -1, 0, 1, x.Bits - 1, x.Bits + 1, height, height + 1, family, family + 1, x.Bits + 256, x.Bits + 1<<32, math.MaxInt} {
			other := slices.Clone(l)
			other[i].Bits = bits
			all = append(all, other)
		}
		places := []api.Prefix{{Addr: x.At.Addr, Len: -1}, {Addr: x.At.Addr, Len: x.At.Len + 256}, {Addr: ofBits(s + "1"), Len: len(s)}, {Addr: ofBits(fill(s, 127, "0") + "1"), Len: len(s)}, made(s + "0"), made(fill(s, family, "1"))}
		if len(s) > 0 {
			places = append(places, made(turned(s)), made(s[1:]), made(s[:len(s)-1]))
		}
		for _, at := range places {
			other := slices.Clone(l)
			other[i].At = at
			all = append(all, other, slices.Insert(slices.Clone(l), i+1, api.Stride{At: at, Bits: 1}))
		}
	}
	return append(all, append(slices.Clone(l), markStride), append(slices.Clone(l), api.Stride{}), append(slices.Clone(l), api.Stride{At: made(fill("", family, "1")), Bits: 1}), slices.Repeat(l, 2))
}

// TestP1101NoPlan: a prefix too many, one missing, one twice, out of order, other bits, other prefixes.
func TestP1101NoPlan(t *testing.T) {
	for _, x := range []struct{ table, plan string }{
		{"0.0.0.0/1 1", ""}, {"", "0.0.0.0/0 1"}, {"", "0.0.0.0/0 0"}, {"0.0.0.0/0 9", "0.0.0.0/0 1"}, {"0.0.0.0/0 9", "0.0.0.0/0 0"}, {"0.0.0.0/1 1", "0.0.0.0/0 2"}, {"0.0.0.0/1 1", "0.0.0.0/0 0"},
		{"0.0.0.0/2 1", "0.0.0.0/0 1"}, {"0.0.0.0/2 1", "0.0.0.0/0 1 0.0.0.0/1 2"}, {"0.0.0.0/2 1", "0.0.0.0/1 1 0.0.0.0/0 1"}, {"0.0.0.0/2 1", "0.0.0.0/0 2 0.0.0.0/1 1"}, {"0.0.0.0/2 1", "0.0.0.0/0 1 0.0.0.0/1 1 128.0.0.0/1 1"},
	} {
		if got, e := Build(read4(x.table).table(32), stridesOf(x.plan)); len(got) != 0 || e != api.ErrPlan {
			t.Errorf("P1101: %s by %s: %v, %v", x.table, x.plan, got, e)
		}
	}
	plans, others := 0, 0
	for _, family := range families {
		for _, m := range someSets(family) {
			tree := m.tree()
			for _, bits := range []int{1, 2, 5, family} {
				l := tree.even(bits).strides()
				if len(l) > 12 {
					continue
				}
				for _, other := range spoilt(family, tree, l) {
					if isBuilt(t, family, m, tree, other) {
						plans++
					} else {
						others++
					}
				}
			}
		}
	}
	if plans < 50 || others < 3000 {
		t.Errorf("only %d plans, %d that are none", plans, others)
	}
}

// TestP1101WrongTables: their own error comes first, whatever the plan.
func TestP1101WrongTables(t *testing.T) {
	for _, family := range families {
		for _, x := range wrongTables(family) {
			for _, l := range [][]api.Stride{nil, {{Bits: 1}}, {{Bits: 20}}, {markStride}} {
				if got, e := Build(x.x, l); len(got) != 0 || e != x.e {
					t.Fatalf("P1101: Build by %v: %v, want %v", l, e, x.e)
				}
			}
		}
	}
}
