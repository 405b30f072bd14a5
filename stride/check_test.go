package stride

import (
	"math"
	"slices"
	"testing"

	"turnpike/api"
)

// planOf reads a list as a plan; false, if it has prefixes out of order, or that are not right.
func planOf(family int, l []api.Stride) (plan, bool) {
	p := plan{}
	for i, x := range l {
		if x.At.Len < 0 || x.At.Len > family {
			return nil, false
		}
		s := spell(x.At.Addr, x.At.Len)
		if made(s) != x.At || i > 0 && s <= spell(l[i-1].At.Addr, l[i-1].At.Len) {
			return nil, false
		}
		p[s] = x.Bits
	}
	return p, true
}

// isChecked asks that Check tells what W8 says of a list.
func isChecked(t *testing.T, x api.Table, tree tree, l []api.Stride) bool {
	t.Helper()
	c, depth, e := Check(x, l)
	p, ok := planOf(x.W, l)
	if !ok || !tree.isPlan(p) {
		if c != (api.Cost{}) || depth != 0 || e != api.ErrPlan {
			t.Fatalf("P1002: %v: Check of %v: %v, %d, %v, but it is no plan", x, l, c, depth, e)
		}
		return false
	}
	if number(c).Cmp(p.cost()) != 0 || depth != p.depth() || e != api.OK {
		t.Fatalf("P1002: %v: Check of %v: %v, %d, %v, want %v, %d", x, l, c, depth, e, p.cost(), p.depth())
	}
	return true
}

func TestP1002ByHand(t *testing.T) {
	x := read4("0.0.0.0/2 128.0.0.0/3")
	for text, want := range map[string][2]uint64{
		"0.0.0.0/0 3":                                         {8, 1},
		"0.0.0.0/0 2 128.0.0.0/2 1":                           {6, 2},
		"0.0.0.0/0 1 0.0.0.0/1 1 128.0.0.0/1 2":               {8, 2},
		"0.0.0.0/0 1 0.0.0.0/1 1 128.0.0.0/1 1 128.0.0.0/2 1": {8, 3},
	} {
		c, depth, e := Check(x, stridesOf(text))
		if c != (api.Cost{0, 0, want[0]}) || depth != int(want[1]) || e != api.OK {
			t.Errorf("P1002: Check of %s: %v, %d, %v", text, c, depth, e)
		}
	}
	for _, text := range []string{
		"",
		"0.0.0.0/0 4", "0.0.0.0/0 0", "0.0.0.0/0 -1", "0.0.0.0/0 259", "0.0.0.0/0 -253",
		"0.0.0.0/0 1", "0.0.0.0/0 2", "0.0.0.0/0 1 0.0.0.0/1 1", "0.0.0.0/0 1 128.0.0.0/1 2", "128.0.0.0/2 1", "0.0.0.0/1 1",
		"0.0.0.0/0 1 0.0.0.0/1 2 128.0.0.0/1 2", "0.0.0.0/0 1 0.0.0.0/1 1 128.0.0.0/1 3", "0.0.0.0/0 1 0.0.0.0/1 1 128.0.0.0/1 0", "0.0.0.0/0 1 0.0.0.0/1 1 128.0.0.0/1 1",
		"128.0.0.0/2 1 0.0.0.0/0 2", "0.0.0.0/0 1 128.0.0.0/1 2 0.0.0.0/1 1",
		"0.0.0.0/0 3 0.0.0.0/0 3", "0.0.0.0/0 2 128.0.0.0/2 1 128.0.0.0/2 1", "0.0.0.0/0 2 0.0.0.0/0 2 128.0.0.0/2 1",
		"0.0.0.0/0 3 0.0.0.0/1 1", "0.0.0.0/0 2 0.0.0.0/1 1 128.0.0.0/2 1", "0.0.0.0/0 2 128.0.0.0/1 2", "0.0.0.0/0 2 128.0.0.0/1 2 128.0.0.0/2 1",
		"0.0.0.0/0 2 0.0.0.0/2 1 128.0.0.0/2 1", "0.0.0.0/0 2 128.0.0.0/2 1 128.0.0.0/3 1", "0.0.0.0/0 2 128.0.0.0/2 1 192.0.0.0/2 1", "0.0.0.0/0 2 64.0.0.0/2 1 128.0.0.0/2 1", "0.0.0.0/0 2 192.0.0.0/2 1",
		"0.0.0.0/0 3 255.255.255.255/32 1",
	} {
		if c, depth, e := Check(x, stridesOf(text)); c != (api.Cost{}) || depth != 0 || e != api.ErrPlan {
			t.Errorf("P1002: Check of %s: %v, %d, %v", text, c, depth, e)
		}
	}
}

// TestP1002Nothing: a table without open nodes has the plan of no strides, and no other.
func TestP1002Nothing(t *testing.T) {
	for _, family := range families {
		for _, m := range []set{setOf(), setOf("")} {
			x := m.table(family)
			for _, l := range [][]api.Stride{nil, {}, make([]api.Stride, 0, 9)} {
				if c, depth, e := Check(x, l); c != (api.Cost{}) || depth != 0 || e != api.OK {
					t.Errorf("P1002: Check of no strides: %v, %d, %v", c, depth, e)
				}
			}
			for _, bits := range []int{-1, 0, 1, family} {
				isChecked(t, x, m.tree(), []api.Stride{{Bits: bits}})
				isChecked(t, x, m.tree(), []api.Stride{{At: made("0"), Bits: bits}})
			}
		}
	}
}

// TestP1002AllLists: of small tables every list of up to three strides out of those that could be one.
func TestP1002AllLists(t *testing.T) {
	for _, family := range families {
		for _, m := range []set{setOf(), setOf(""), setOf("1"), setOf("0", "1"), setOf("00"), setOf("", "01", "1"), setOf("00", "11"), setOf("0", "00", "01", "10"), setOf("010"), setOf("00", "101")} {
			x, tree := m.table(family), m.tree()
			var some []api.Stride
			for _, s := range []string{"", "0", "00", "01", "1", "10"} {
				for bits := range tree.height[""] + 2 {
					some = append(some, api.Stride{At: made(s), Bits: bits})
				}
			}
			plans := 0
			try := func(l ...api.Stride) {
				if isChecked(t, x, tree, l) {
					plans++
				}
			}
			try()
			for _, a := range some {
				try(a)
				for _, b := range some {
					try(a, b)
					for _, c := range some {
						try(a, b, c)
					}
				}
			}
			want := 0
			for _, p := range tree.plans() {
				if len(p) <= 3 {
					want++
				}
			}
			if plans != want {
				t.Errorf("P1002: %v has %d plans, want %d", m, plans, want)
			}
		}
	}
}

// TestP1002AllPlans: all plans of small tables are plans, each with its cost and its depth.
func TestP1002AllPlans(t *testing.T) {
	n := 0
	for i, m := range planSets() {
		x, tree := m.table(families[i%2]), m.tree()
		for _, p := range tree.plans() {
			n++
			if !isChecked(t, x, tree, p.strides()) {
				t.Fatalf("P1002: %v is a plan of %v", p, m)
			}
		}
	}
	if n < 10000 {
		t.Errorf("only %d plans", n)
	}
}

// spoilt are lists that come of one by a change, most of them no plans.
func spoilt(family int, tree tree, l []api.Stride) [][]api.Stride {
	var all [][]api.Stride
	for i, x := range l {
		all = append(all, slices.Delete(slices.Clone(l), i, i+1), slices.Insert(slices.Clone(l), i, x), l[:i])
		if i > 0 {
			swapped := slices.Clone(l)
			swapped[i], swapped[i-1] = swapped[i-1], swapped[i]
			all = append(all, swapped, slices.Insert(slices.Clone(l), i-1, x))
		}
		s := spell(x.At.Addr, x.At.Len)
		height := tree.height[s]
		for _, bits := range []int{math.MinInt, -1, 0, 1, x.Bits - 1, x.Bits + 1, height, height + 1, family, family + 1, x.Bits + 64, x.Bits + 256, x.Bits - 256, x.Bits + 1<<32, math.MaxInt} {
			other := slices.Clone(l)
			other[i].Bits = bits
			all = append(all, other)
		}
		places := []api.Prefix{{Addr: x.At.Addr, Len: -1}, {Addr: x.At.Addr, Len: x.At.Len + 256}, {Addr: x.At.Addr, Len: x.At.Len - 256}, {Addr: x.At.Addr, Len: x.At.Len + 1<<32}, {Addr: ofBits(s + "1"), Len: len(s)}, {Addr: ofBits(fill(s, 127, "0") + "1"), Len: len(s)}, made(s + "0"), made(s + "1"), made(fill(s, family, "0")), made(fill(s, family, "1"))}
		if len(s) > 0 {
			places = append(places, made(turned(s)), made(s[1:]), made(s[:len(s)-1]))
		}
		for _, at := range places {
			other := slices.Clone(l)
			other[i].At = at
			all = append(all, other, slices.Insert(slices.Clone(l), i+1, api.Stride{At: at, Bits: 1}))
		}
	}
	return append(all, append(slices.Clone(l), markStride), append(slices.Clone(l), api.Stride{}), append(slices.Clone(l), api.Stride{At: made(fill("", family, "1")), Bits: 1}), slices.Repeat(l, 2))
}

// TestP1002Spoilt: plans with a prefix too many, one missing, one twice, out of order, other bits, other prefixes.
func TestP1002Spoilt(t *testing.T) {
	plans, others := 0, 0
	for _, family := range families {
		for _, m := range someSets(family) {
			x, tree := m.table(family), m.tree()
			tell := tree.asked()
			for _, depth := range []int{1, 2, 3} {
				p, _ := tree.best(tell, depth)
				for _, q := range []plan{p, tree.even(depth * 3)} {
					l := q.strides()
					isChecked(t, x, tree, l)
					if len(l) > 25 {
						continue
					}
					for _, other := range spoilt(family, tree, l) {
						if isChecked(t, x, tree, other) {
							plans++
						} else {
							others++
						}
					}
				}
			}
		}
	}
	if plans < 100 || others < 10000 {
		t.Errorf("only %d plans, %d that are none", plans, others)
	}
}

// TestP1002OfAnotherTable: a plan of one table is one of another just where that has the same open nodes.
func TestP1002OfAnotherTable(t *testing.T) {
	l := smallSets("", "", 7)
	for i, a := range l {
		x, tree := a.table(32), a.tree()
		for k := i % 5; k < len(l); k += 5 {
			for _, p := range l[k].tree().plans() {
				isChecked(t, x, tree, p.strides())
			}
		}
	}
}

func TestP1002WrongTables(t *testing.T) {
	for _, family := range families {
		for _, x := range wrongTables(family) {
			for _, l := range [][]api.Stride{nil, {{Bits: 1}}, {{Bits: 20}}, {markStride}} {
				if c, depth, e := Check(x.x, l); c != (api.Cost{}) || depth != 0 || e != x.e {
					t.Fatalf("P1002: Check: %v, %d, %v, want %v", c, depth, e, x.e)
				}
			}
		}
	}
}
