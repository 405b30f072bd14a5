package least

import (
	"slices"
	"testing"

	"turnpike/algebra"
	"turnpike/api"
	"turnpike/prefix"
	"turnpike/table"
)

// hasLeast asks that Table tells a right table that leads alike, of just so many routes, and Count their number.
func hasLeast(t *testing.T, family int, m hops, want int) {
	t.Helper()
	x := m.table(family)
	y, e := Table(x)
	if e != api.OK {
		t.Fatalf("P701: Table(%v): %v", x, e)
	}
	fewer, ok := asHops(y, family)
	if !ok || table.Check(y) != api.OK {
		t.Fatalf("P701: Table(%v) is not right: %v", x, y)
	}
	if !slices.Equal(fewer.pieces(family), m.pieces(family)) {
		t.Fatalf("P701: Table(%v) leads otherwise: %v", x, y)
	}
	if len(y.Routes) != want {
		t.Fatalf("P701: Table(%v) has %d routes, not %d: %v", x, len(y.Routes), want, y)
	}
	if n, e := Count(x); n != want || e != api.OK {
		t.Fatalf("P701: Count(%v) = %d, %v, want %d", x, n, e, want)
	}
}

func TestP701ByHand(t *testing.T) {
	for _, x := range []struct {
		family int
		text   string
		want   int
	}{
		// The chapter's.
		{32, "10.0.0.0/9 1 10.128.0.0/9 1", 1},
		{32, "10.0.0.0/9 1 10.128.0.0/10 1 10.192.0.0/10 2", 2},
		{32, "10.0.0.0/9 1 10.192.0.0/10 1", 2},
		// None, one, the prefix of length 0.
		{32, "", 0},
		{128, "", 0},
		{32, "0.0.0.0/0 1", 1},
		{128, "::/0 65535", 1},
		{32, "10.0.0.0/8 1", 1},
		{32, "0.0.0.0/0 1 0.0.0.0/1 2", 2},
		{32, "0.0.0.0/0 1 0.0.0.0/1 1", 1},
		// Kids: with one next hop, with two, one that leads nowhere.
		{32, "0.0.0.0/1 5 128.0.0.0/1 5", 1},
		{32, "0.0.0.0/1 5 128.0.0.0/1 6", 2},
		{32, "0.0.0.0/1 5", 1},
		{32, "128.0.0.0/1 5", 1},
		{128, "::/1 5 8000::/1 5", 1},
		{128, "2001:db8::/33 1 2001:db8:8000::/33 2", 2},
		{128, "2001:db8::/33 1 2001:db8:8000::/34 1 2001:db8:c000::/34 1", 1},
		{32, "10.0.0.0/10 1 10.64.0.0/10 1 10.128.0.0/10 1 10.192.0.0/10 1", 1},
		{32, "10.0.0.0/10 1 10.64.0.0/10 2 10.128.0.0/10 1 10.192.0.0/10 2", 3},
		{32, "10.0.0.0/10 1 10.64.0.0/10 2 10.128.0.0/10 2 10.192.0.0/10 1", 3},
		{32, "10.0.0.0/10 1 10.64.0.0/10 2 10.128.0.0/10 3 10.192.0.0/10 4", 4},
		{32, "10.0.0.0/10 1 10.64.0.0/10 2 10.128.0.0/10 3 10.192.0.0/10 2", 3},
		{32, "10.64.0.0/10 1 10.128.0.0/10 1", 2},
		{32, "9.0.0.0/8 1 10.0.0.0/8 1", 2},
		{32, "10.0.0.0/8 1 11.0.0.0/8 1", 1},
		// Within one another, with the same next hop, and with other ones.
		{32, "10.0.0.0/8 1 10.1.0.0/16 1", 1},
		{32, "10.0.0.0/8 1 10.1.0.0/16 2", 2},
		{32, "10.0.0.0/8 1 10.1.0.0/16 2 10.1.1.0/24 1", 3},
		{32, "10.0.0.0/8 1 10.1.0.0/16 2 10.1.1.0/24 2", 2},
		{32, "10.0.0.0/8 1 10.1.0.0/16 1 10.1.1.0/24 1", 1},
		{32, "0.0.0.0/0 1 10.0.0.0/8 1 10.1.0.0/16 2 10.1.1.0/24 1", 3},
		{32, "10.0.0.0/8 1 10.0.0.0/9 2 10.0.0.0/10 1", 2},
		// Routes whose addresses longer ones have.
		{32, "10.0.0.0/8 9 10.0.0.0/9 1 10.128.0.0/9 2", 2},
		{32, "10.0.0.0/8 9 10.0.0.0/9 1 10.128.0.0/9 1", 1},
		{32, "10.0.0.0/8 9 10.0.0.0/9 1 10.128.0.0/10 2", 3},
		{32, "10.0.0.0/8 9 10.0.0.0/9 8 10.0.0.0/10 1 10.64.0.0/10 1 10.128.0.0/9 1", 1},
		{32, "0.0.0.0/0 9 0.0.0.0/1 5 1.2.3.4/32 5 128.0.0.0/1 5", 1},
		// The first address, the last one, the greatest length.
		{32, "0.0.0.0/32 1", 1},
		{32, "255.255.255.255/32 1", 1},
		{32, "0.0.0.0/32 1 0.0.0.1/32 1", 1},
		{32, "255.255.255.254/32 1 255.255.255.255/32 1", 1},
		{32, "255.255.255.254/32 1 255.255.255.255/32 2", 2},
		{32, "0.0.0.0/32 1 255.255.255.255/32 1", 2},
		{32, "0.0.0.0/0 1 0.0.0.0/32 2 255.255.255.255/32 2", 3},
		{32, "0.0.0.0/0 1 0.0.0.0/32 1 255.255.255.255/32 1", 1},
		{32, "1.2.3.4/30 1 1.2.3.4/32 2 1.2.3.5/32 2 1.2.3.6/32 2", 2},
		{32, "1.2.3.4/30 1 1.2.3.4/32 2 1.2.3.5/32 2 1.2.3.6/32 2 1.2.3.7/32 2", 1},
		{128, "::/128 1", 1},
		{128, "::/128 1 ::1/128 1 ::2/127 1", 1},
		{128, "ffff:ffff:ffff:ffff:ffff:ffff:ffff:ffff/128 1", 1},
		{128, "ffff:ffff:ffff:ffff:ffff:ffff:ffff:fffe/128 1 ffff:ffff:ffff:ffff:ffff:ffff:ffff:ffff/128 1", 1},
		{128, "::/0 1 ::/128 2 ffff:ffff:ffff:ffff:ffff:ffff:ffff:ffff/128 1", 2},
		// A next hop that one half only could take is not taken for both: 3 leads both halves alike.
		{32, "10.0.0.0/10 1 10.64.0.0/10 3 10.128.0.0/10 2 10.192.0.0/10 3", 3},
		// Next hops as far off one another as they can be.
		{32, "10.0.0.0/10 65535 10.64.0.0/10 1 10.128.0.0/10 65535 10.192.0.0/10 256", 3},
	} {
		m, ok := asHops(read(x.family, x.text), x.family)
		if !ok {
			t.Fatalf("not right: %s", x.text)
		}
		hasLeast(t, x.family, m, x.want)
		if n := m.needs(); n != x.want {
			t.Errorf("%s needs %d", x.text, n)
		}
	}
}

// TestP701AllTablesOfASmallTree: three levels, next hops to 3.
func TestP701AllTablesOfASmallTree(t *testing.T) {
	want := fewestOfAll(2, 3, 0)
	for _, family := range families {
		places := roots(family)
		for i, root := range places {
			trees := smallTrees(root, "", 7, 3)
			// Each place takes its share of the tables: together they take all.
			for k := i; k < len(trees); k += len(places) {
				hasLeast(t, family, trees[k], want[trees[k].leaves(root, 2)])
			}
		}
	}
}

// TestP701AllFunctionsOfASmallTree: four levels, at the end of a family's bits, so that there are no other prefixes; each way in which a tree's leaves can go, told by its leaves.
func TestP701AllFunctionsOfASmallTree(t *testing.T) {
	for _, family := range families {
		root := fill("101", family-3, "0")
		for leaves, want := range fewestOfAll(3, 2, 0) {
			m := hops{}
			for i, sign := range leaves {
				if sign != '0' {
					m[root+spell(api.Word{Hi: uint64(i) << 61}, 3)] = int(sign - '0')
				}
			}
			hasLeast(t, family, m, want)
		}
	}
}

// TestP701OfStretchedTrees: between the nodes lie bits at which nothing is told.
func TestP701OfStretchedTrees(t *testing.T) {
	for i, gap := range []string{"0", "1", "01", "110", "00000", "1111111"} {
		family := families[i%2]
		for _, root := range []string{"", "0", "01", "111", "0010"} {
			trees := smallTrees(root, gap, 7, 2)
			for k := i + len(root); k < len(trees); k += 7 {
				m := trees[k]
				hasLeast(t, family, m, m.needs())
				outer := m.and(hops{"": 1 + k%3})
				hasLeast(t, family, outer, outer.needs())
			}
		}
	}
}

func TestP701OfSomeTables(t *testing.T) {
	for _, family := range families {
		for i, m := range someTables(family) {
			hasLeast(t, family, m, m.needs())
			outer := m.and(hops{"": 1 + i%3})
			hasLeast(t, family, outer, outer.needs())
		}
	}
}

// TestP701OfManyNextHops: halves with many next hops each, some of which both have.
func TestP701OfManyNextHops(t *testing.T) {
	next := counter()
	for _, family := range families {
		for _, most := range []uint64{5, 12, 30, 200, 65535} {
			for range 6 {
				root := spell(api.Word{Hi: next(), Lo: next()}, int(next()%uint64(family-6)))
				m := hops{}
				for i := range uint64(64) {
					m[root+spell(api.Word{Hi: i << 58}, 6)] = 1 + int(next()%most)
				}
				hasLeast(t, family, m, m.needs())
			}
		}
	}
}

// hasLeastOfMany asks what hasLeast does of tables that are too great for the samples.
func hasLeastOfMany(t *testing.T, x api.Table, want int) {
	t.Helper()
	y, e := Table(x)
	if e != api.OK || y.W != x.W || table.Check(y) != api.OK || len(y.Routes) != want {
		t.Fatalf("P701: Table of %d routes has %d, want %d: %v", len(x.Routes), len(y.Routes), want, e)
	}
	if same, e := algebra.Equal(x, y); !same || e != api.OK {
		t.Fatalf("P701: Table of %d routes leads otherwise: %v", len(x.Routes), e)
	}
	if n, e := Count(x); n != want || e != api.OK {
		t.Fatalf("P701: Count of %d routes = %d, %v, want %d", len(x.Routes), n, e, want)
	}
}

// TestP701OfFullTables: just MaxEntries routes.
func TestP701OfFullTables(t *testing.T) {
	// All that goes to 1 becomes one route, or all that goes to 2.
	hasLeastOfMany(t, api.Table{W: 32, Routes: full()}, api.MaxEntries/2+1)
	one := slices.Clone(full())
	for i := range one {
		one[i].Hop = 7
	}
	hasLeastOfMany(t, api.Table{W: 128, Routes: one}, 1)
	// No two of these are beside one another.
	far := make([]api.Route, api.MaxEntries)
	for i := range far {
		far[i] = api.Route{At: api.Prefix{Addr: api.Word{Hi: uint64(i) << 44, Lo: 5}, Len: 128}, Hop: 1 + i%65535}
	}
	hasLeastOfMany(t, api.Table{W: 128, Routes: far}, api.MaxEntries)
}

// TestP701OfLongChains: prefixes within one another over all lengths, many times.
func TestP701OfLongChains(t *testing.T) {
	for _, family := range families {
		x := api.Table{W: family}
		for i := range uint64(64) {
			w := prefix.Last(family, api.Prefix{Addr: api.Word{Hi: i << 58}, Len: 6 + int(i)%9})
			for n := 6; n <= family; n++ {
				p, _ := prefix.Of(family, w, n)
				x.Routes = append(x.Routes, api.Route{At: p, Hop: 1 + n%2})
			}
		}
		x, e := table.Canon(family, x.Routes)
		if e != api.OK {
			t.Fatal(e)
		}
		m, ok := asHops(x, family)
		if !ok {
			t.Fatal("not right")
		}
		hasLeast(t, family, m, m.needs())
	}
}

func TestP701OfWrongTables(t *testing.T) {
	for _, family := range families {
		for _, x := range wrongTables(family) {
			if y, e := Table(x.x); e != x.e || y.W != 0 || len(y.Routes) != 0 {
				t.Fatalf("P701: Table: %d, %v, want %v", len(y.Routes), e, x.e)
			}
			if n, e := Count(x.x); e != x.e || n != 0 {
				t.Fatalf("P701: Count: %d, %v, want %v", n, e, x.e)
			}
		}
	}
}
