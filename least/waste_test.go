package least

import (
	"slices"
	"testing"

	"turnpike/api"
	"turnpike/prefix"
)

// wastes asks that Waste tells just these routes, in this order.
func wastes(t *testing.T, x api.Table, want []api.Route) {
	t.Helper()
	if got, e := Waste(x); e != api.OK || !slices.Equal(got, want) {
		t.Fatalf("P702: Waste(%v) = %v, %v, want %v", brief(x.Routes), brief(got), e, brief(want))
	}
}

func TestP702ByHand(t *testing.T) {
	for _, x := range []struct {
		family     int
		text, want string
	}{
		// The chapter's.
		{32, "10.0.0.0/8 1 10.1.0.0/16 1", "10.1.0.0/16 1"},
		// None, one, the prefix of length 0.
		{32, "", ""},
		{128, "", ""},
		{32, "0.0.0.0/0 1", ""},
		{128, "::/0 1", ""},
		{32, "10.0.0.0/8 1", ""},
		{32, "0.0.0.0/0 1 10.0.0.0/8 1", "10.0.0.0/8 1"},
		{32, "0.0.0.0/0 1 10.0.0.0/8 2", ""},
		{32, "0.0.0.0/0 3 0.0.0.0/1 1 128.0.0.0/1 2", "0.0.0.0/0 3"},
		// What could be said by one route is no waste, as long as each of them says something.
		{32, "10.0.0.0/9 1 10.128.0.0/9 1", ""},
		{32, "10.0.0.0/8 1 11.0.0.0/8 1", ""},
		// Each by itself: without both kids, or without both the parent and a kid, not all is led alike.
		{32, "10.0.0.0/8 1 10.0.0.0/9 1 10.128.0.0/9 1", "10.0.0.0/8 1 10.0.0.0/9 1 10.128.0.0/9 1"},
		{32, "10.0.0.0/8 1 10.1.0.0/16 1 10.1.1.0/24 1", "10.1.0.0/16 1 10.1.1.0/24 1"},
		// Within one another: it hangs on the next shorter one.
		{32, "10.0.0.0/8 1 10.1.0.0/16 2 10.1.1.0/24 1", ""},
		{32, "10.0.0.0/8 1 10.1.0.0/16 2 10.1.1.0/24 2", "10.1.1.0/24 2"},
		{32, "10.0.0.0/8 1 10.1.0.0/16 2 10.2.0.0/16 1", "10.2.0.0/16 1"},
		{32, "10.0.0.0/8 1 10.1.0.0/16 2 11.0.0.0/8 2 12.0.0.0/8 1", ""},
		{32, "1.2.3.4/31 1 1.2.3.4/32 1", "1.2.3.4/32 1"},
		// Longer ones have all of it, by themselves or by what lies in them.
		{32, "10.0.0.0/8 9 10.0.0.0/9 1 10.128.0.0/9 2", "10.0.0.0/8 9"},
		{32, "10.0.0.0/8 9 10.0.0.0/9 1 10.128.0.0/10 2", ""},
		{32, "10.0.0.0/8 9 10.0.0.0/9 1 10.128.0.0/10 2 10.192.0.0/10 3", "10.0.0.0/8 9"},
		{32, "10.0.0.0/8 9 10.0.0.0/10 1 10.64.0.0/10 2 10.128.0.0/10 3 10.192.0.0/10 4", "10.0.0.0/8 9"},
		{32, "10.0.0.0/8 9 10.0.0.0/9 8 10.0.0.0/10 1 10.64.0.0/10 2 10.128.0.0/9 3", "10.0.0.0/8 9 10.0.0.0/9 8"},
		{32, "10.0.0.0/8 9 10.0.0.0/9 8 10.0.0.0/10 1 10.64.0.0/10 2 10.128.0.0/10 3", "10.0.0.0/9 8"},
		{32, "10.0.0.0/8 9 10.0.0.0/9 9 10.128.0.0/9 2", "10.0.0.0/8 9 10.0.0.0/9 9"},
		// Two that lie beside one another, but are no kids of one.
		{32, "10.0.0.0/8 9 10.64.0.0/10 1 10.128.0.0/10 2", ""},
		// The first address, the last one, the greatest length.
		{32, "0.0.0.0/31 5 0.0.0.0/32 1 0.0.0.1/32 2", "0.0.0.0/31 5"},
		{32, "255.255.255.254/31 5 255.255.255.254/32 1 255.255.255.255/32 2", "255.255.255.254/31 5"},
		{32, "0.0.0.0/0 1 0.0.0.0/32 1 255.255.255.255/32 1", "0.0.0.0/32 1 255.255.255.255/32 1"},
		{32, "0.0.0.0/0 1 0.0.0.0/32 2 255.255.255.255/32 2", ""},
		{128, "::/0 1 ::/128 1 ffff:ffff:ffff:ffff:ffff:ffff:ffff:ffff/128 1", "::/128 1 ffff:ffff:ffff:ffff:ffff:ffff:ffff:ffff/128 1"},
		{128, "2001:db8::/32 4 2001:db8::/33 4 2001:db8:8000::/33 5", "2001:db8::/32 4 2001:db8::/33 4"},
		{128, "::/127 5 ::/128 1 ::1/128 2", "::/127 5"},
	} {
		wastes(t, read(x.family, x.text), read(x.family, x.want).Routes)
	}
}

// TestP702OfSmallTrees: all tables of three levels.
func TestP702OfSmallTrees(t *testing.T) {
	for _, family := range families {
		places := roots(family)
		for i, root := range places {
			trees := smallTrees(root, "", 7, 2)
			for k := i; k < len(trees); k += len(places) {
				wastes(t, trees[k].table(family), trees[k].waste(family))
			}
		}
	}
}

// TestP702OfFourLevels: many routes that longer ones have wholly, over several levels.
func TestP702OfFourLevels(t *testing.T) {
	next := counter()
	for _, family := range families {
		for range 400 {
			root := spell(api.Word{Hi: next(), Lo: next()}, int(next()%uint64(family-3)))
			m := hops{}
			for _, s := range nodes(root, "", 15) {
				if next()%5 > 0 {
					m[s] = 1 + int(next()%9)
				}
			}
			wastes(t, m.table(family), m.waste(family))
		}
	}
}

func TestP702OfSomeTables(t *testing.T) {
	for _, family := range families {
		for i, m := range someTables(family) {
			wastes(t, m.table(family), m.waste(family))
			outer := m.and(hops{"": 1 + i%3})
			wastes(t, outer.table(family), outer.waste(family))
		}
	}
}

// TestP702OfFullTables: just MaxEntries routes.
func TestP702OfFullTables(t *testing.T) {
	wastes(t, api.Table{W: 32, Routes: full()}, nil)
	// The prefix of length 0 leads the last one's addresses alone: what goes where it does is waste, itself it is none.
	hole := append([]api.Route{{Hop: 1}}, full()[:api.MaxEntries-1]...)
	var want []api.Route
	for _, r := range hole[1:] {
		if r.Hop == 1 {
			want = append(want, r)
		}
	}
	wastes(t, api.Table{W: 128, Routes: hole}, want)
	// Each node is hidden by its kids, over all levels down to the leaves.
	all := levels(20)
	want = slices.DeleteFunc(slices.Clone(all), func(r api.Route) bool { return r.At.Len == 19 })
	wastes(t, api.Table{W: 32, Routes: all}, want)
	// Without the last leaf its parent leads something; those that lie over that have two kids as before.
	wastes(t, api.Table{W: 32, Routes: all[:len(all)-1]}, want[:len(want)-1])
}

// levels tells a route for each prefix of fewer than so many bits; one goes elsewhere than that around it.
func levels(n int) []api.Route {
	var l []api.Route
	var grow func(p api.Prefix)
	grow = func(p api.Prefix) {
		l = append(l, api.Route{At: p, Hop: 1 + p.Len})
		if p.Len+1 < n {
			low, high, _ := prefix.Kids(128, p)
			grow(low)
			grow(high)
		}
	}
	grow(api.Prefix{})
	return l
}

func TestP702OfWrongTables(t *testing.T) {
	for _, family := range families {
		for _, x := range wrongTables(family) {
			if l, e := Waste(x.x); e != x.e || len(l) != 0 {
				t.Fatalf("P702: Waste: %d, %v, want %v", len(l), e, x.e)
			}
		}
	}
}
