package update

import (
	"maps"
	"math"
	"slices"
	"strings"
	"testing"

	"turnpike/api"
	"turnpike/table"
)

// isBetween asks for the changes between two tables.
func isBetween(t *testing.T, family int, a, b hops, want ...api.Change) {
	t.Helper()
	if l, e := Between(a.table(family), b.table(family)); e != api.OK || !slices.Equal(l, want) {
		t.Fatalf("P2205: between %v and %v: %v, %v; want %v", a, b, l, e, want)
	}
}

func TestP2205ByHand(t *testing.T) {
	for _, family := range families {
		all := strings.Repeat("1", family)
		abc := hops{"": 1, "0": 2, "01": 3, all: 65535}
		isBetween(t, family, nil, nil)
		isBetween(t, family, abc, abc)
		isBetween(t, family, nil, abc, set("", 1), set("0", 2), set("01", 3), set(all, 65535))
		isBetween(t, family, abc, nil, drop(""), drop("0"), drop("01"), drop(all))
		// Another next hop is one change.
		isBetween(t, family, abc, hops{"": 1, "0": 2, "01": 4, all: 65535}, set("01", 4))
		isBetween(t, family, hops{"0": 1}, hops{"0": 2}, set("0", 2))
		isBetween(t, family, hops{"0": 1, "1": 2}, hops{"0": 2, "1": 1}, set("0", 2), set("1", 1))
		// In the order of their prefixes, whatever they are.
		isBetween(t, family, hops{"0": 1, "10": 2, "11": 3}, hops{"10": 2, "11": 4, "111": 5}, drop("0"), set("11", 4), set("111", 5))
		isBetween(t, family, hops{"00": 1, "1": 1}, hops{"0": 1, "01": 1}, set("0", 1), drop("00"), set("01", 1), drop("1"))
		isBetween(t, family, hops{"": 1}, hops{"0": 1}, drop(""), set("0", 1))
		isBetween(t, family, hops{"0": 1}, hops{"": 1}, set("", 1), drop("0"))
		isBetween(t, family, hops{all: 1}, hops{all[1:]: 1}, set(all[1:], 1), drop(all))
		// Tables that lead alike are two all the same.
		isBetween(t, family, hops{"0": 1, "1": 1}, hops{"": 1}, set("", 1), drop("0"), drop("1"))
	}
	isBetween(t, 32, hops{dotted(1): 1, dotted(2): 2, dotted(3): 3}, hops{dotted(2): 2, dotted(3): 4, dotted(4): 5}, drop(dotted(1)), set(dotted(3), 4), set(dotted(4), 5))
}

// isNotBetween asks for an error, and for no changes beside it.
func isNotBetween(t *testing.T, a, b api.Table, want api.Errno) {
	t.Helper()
	if l, e := Between(a, b); e != want || len(l) != 0 {
		t.Fatalf("P2205: between %v and %v: %v, %v; want %v", a, b, l, e, want)
	}
}

// TestP2205Errors: that of the first table, that of the second one, that of both, in this order.
func TestP2205Errors(t *testing.T) {
	type wrong struct {
		t api.Table
		e api.Errno
	}
	var wrongs []wrong
	add := func(e api.Errno, family int, l ...api.Route) {
		wrongs = append(wrongs, wrong{api.Table{W: family, Routes: l}, e})
	}
	for _, family := range noFamilies {
		add(api.ErrFamily, family)
		add(api.ErrFamily, family, set("0", 0).Route)
	}
	for _, family := range families {
		for _, size := range []int{math.MinInt, -1, family + 1, math.MaxInt} {
			add(api.ErrLen, family, set("", 1).Route, api.Route{At: api.Prefix{Len: size}, Hop: 1})
		}
		for _, hop := range noHops {
			add(api.ErrHop, family, set("", 1).Route, set("0", hop).Route)
		}
		add(api.ErrHost, family, api.Route{At: api.Prefix{Addr: wordOf("01"), Len: 1}, Hop: 1})
		add(api.ErrHost, family, api.Route{At: api.Prefix{Addr: api.Word{Lo: 1}, Len: 32}, Hop: 1})
		add(api.ErrOrder, family, set("0", 1).Route, set("", 1).Route)
		add(api.ErrOrder, family, set("0", 1).Route, set("0", 1).Route)
		add(api.ErrOrder, family, set("", 1).Route, set("00", 1).Route, set("1", 1).Route, set("01", 1).Route)
	}
	for _, a := range wrongs {
		if e := table.Check(a.t); e != a.e {
			t.Fatalf("table.Check of %v: %v; want %v", a.t, e, a.e)
		}
		for _, family := range families {
			isNotBetween(t, a.t, api.Table{W: family}, a.e)
			isNotBetween(t, api.Table{W: family}, a.t, a.e)
			isNotBetween(t, hops{"0": 1, "11": 2}.table(family), a.t, a.e)
		}
		isNotBetween(t, a.t, a.t, a.e)
		for _, b := range wrongs {
			isNotBetween(t, a.t, b.t, a.e)
		}
	}
	for _, h := range []hops{nil, {"": 1}, {"0": 1, "01": 2}} {
		isNotBetween(t, h.table(32), h.table(128), api.ErrKind)
		isNotBetween(t, h.table(128), h.table(32), api.ErrKind)
		isNotBetween(t, h.table(128), api.Table{W: 32}, api.ErrKind)
	}
}

// TestP2205All: of all tables of few prefixes; each change is needed, and does what it says.
func TestP2205All(t *testing.T) {
	for _, family := range families {
		prefixes := []string{"", "0", "01", "1"}
		if family == 128 {
			long := strings.Repeat("10", 64)
			prefixes = []string{long[:64], long[:65], long, "11"}
		}
		var tables []hops
		for v := range 81 {
			h := hops{}
			for _, s := range prefixes {
				if v%3 > 0 {
					h[s] = v % 3
				}
				v /= 3
			}
			tables = append(tables, h)
		}
		for _, a := range tables {
			for _, b := range tables {
				want := betweenBy(a, b)
				isBetween(t, family, a, b, want...)
				if got, e := doneBy(family, a, want); e != api.OK || !maps.Equal(got, b) {
					t.Fatalf("P2205: %v of %v: %v, %v; want %v", want, a, got, e, b)
				}
				for i := range want {
					if got, _ := doneBy(family, a, slices.Delete(slices.Clone(want), i, i+1)); maps.Equal(got, b) {
						t.Fatalf("P2205: of %v for %v and %v change %d is not needed", want, a, b, i)
					}
				}
			}
		}
	}
}

// TestP2205AsTheChapterSays: of many tables, alike and unlike.
func TestP2205AsTheChapterSays(t *testing.T) {
	next := counter()
	sizes := map[int]int{}
	for range 4000 {
		family := one(next, families...)
		a, b := someHops(next, family), someHops(next, family)
		if upTo(next, 2) == 0 {
			b, _ = doneBy(family, a, someChanges(next, family, a, 0))
		}
		want := betweenBy(a, b)
		sizes[len(want)]++
		isBetween(t, family, a, b, want...)
		isBetween(t, family, b, a, betweenBy(b, a)...)
	}
	if len(sizes) < 20 || sizes[0] < 100 {
		t.Errorf("how many changes: %v", sizes)
	}
}

// TestP2205Great: tables of as many routes as there may be.
func TestP2205Great(t *testing.T) {
	a, b := fullTable(128, 1), fullTable(128, 1)
	if l, e := Between(a, b); e != api.OK || len(l) != 0 {
		t.Fatalf("P2205: %d changes, %v", len(l), e)
	}
	b.Routes[0].Hop, b.Routes[1<<19].Hop, b.Routes[1<<20-1].Hop = 2, 3, 4
	if l, e := Between(a, b); e != api.OK || !slices.Equal(l, []api.Change{{Kind: api.CSet, Route: b.Routes[0]}, {Kind: api.CSet, Route: b.Routes[1<<19]}, {Kind: api.CSet, Route: b.Routes[1<<20-1]}}) {
		t.Fatalf("P2205: %d changes, %v", len(l), e)
	}
	// No prefix is of both: each is one bit longer.
	for i := range b.Routes {
		b.Routes[i].At.Len, b.Routes[i].Hop = 21, 5
	}
	l, e := Between(a, b)
	if e != api.OK || len(l) != 2<<20 {
		t.Fatalf("P2205: %d changes, %v", len(l), e)
	}
	for i, c := range l {
		if want := (api.Change{Kind: api.CSet, Route: b.Routes[i/2]}); i%2 == 1 && c != want || i%2 == 0 && c != (api.Change{Kind: api.CDrop, Route: api.Route{At: a.Routes[i/2].At}}) {
			t.Fatalf("P2205: change %d: %v", i, c)
		}
	}
	a.Routes = append(a.Routes, b.Routes[1<<20-1])
	isLimit := func(a, b api.Table) {
		t.Helper()
		if l, e := Between(a, b); e != api.ErrLimit || len(l) != 0 {
			t.Fatalf("P2205: %d changes, %v", len(l), e)
		}
	}
	isLimit(a, b)
	isLimit(b, a)
	isLimit(a, api.Table{})
}
