package least

import (
	"slices"
	"testing"

	"turnpike/algebra"
	"turnpike/api"
	"turnpike/prefix"
	"turnpike/table"
)

// counted is Count of a table that has one.
func counted(t *testing.T, x api.Table) int {
	t.Helper()
	n, e := Count(x)
	if e != api.OK {
		t.Fatalf("Count(%v): %v", x, e)
	}
	return n
}

// eachTable goes over tables of small trees, of stretched ones, and over such without a pattern.
func eachTable(do func(family int, m hops)) {
	for _, family := range families {
		tables := someTables(family)
		for _, root := range roots(family) {
			tables = append(tables, smallTrees(root, "", 5, 2)...)
		}
		tables = append(tables, smallTrees("0", "10", 5, 2)...)
		for _, m := range tables {
			do(family, m)
		}
	}
}

func TestP703Bounds(t *testing.T) {
	fewer, fewerThanParts := 0, 0
	eachTable(func(family int, m hops) {
		x := m.table(family)
		n := counted(t, x)
		l, e := algebra.Segs(x)
		parts, f := algebra.Table(family, l)
		if e != api.OK || f != api.OK || n > len(x.Routes) || n > len(parts.Routes) {
			t.Fatalf("P703: %v, %v: Count(%v) = %d, of %d segments' %d routes", e, f, x, n, len(l), len(parts.Routes))
		}
		if n < len(x.Routes) {
			fewer++
		}
		if n < len(parts.Routes) {
			fewerThanParts++
		}
		if n == 0 && len(parts.Routes) > 0 {
			t.Fatalf("P703: %v leads somewhere", x)
		}
	})
	if fewer < 1000 || fewerThanParts < 1000 {
		t.Errorf("only %d have fewer routes, only %d fewer than their segments", fewer, fewerThanParts)
	}
}

// TestP703OneCount: tables that lead alike, made of one another, and all of a small tree.
func TestP703OneCount(t *testing.T) {
	eachTable(func(family int, m hops) {
		x := m.table(family)
		n := counted(t, x)
		l, _ := algebra.Segs(x)
		parts, _ := algebra.Table(family, l)
		least, _ := Table(x)
		if k := counted(t, parts); k != n {
			t.Fatalf("P703: Count(%v) = %d, but that of %v %d", x, n, parts, k)
		}
		if k := counted(t, least); k != n || k != len(least.Routes) {
			t.Fatalf("P703: Count(%v) = %d, but that of %v %d", x, n, least, k)
		}
		if same, e := algebra.Equal(x, least); !same || e != api.OK {
			t.Fatalf("P703: %v leads otherwise than %v", least, x)
		}
	})
	for _, family := range families {
		counts := map[string]int{}
		for _, m := range smallTrees("0", "", 7, 2) {
			leaves, n := m.leaves("0", 2), counted(t, m.table(family))
			if k, ok := counts[leaves]; ok && k != n {
				t.Fatalf("P703: %s has two counts, %d and %d", leaves, k, n)
			}
			counts[leaves] = n
		}
		if len(counts) != 81 {
			t.Errorf("%d ways to lead four leaves", len(counts))
		}
	}
}

func TestP703TableHasNoWaste(t *testing.T) {
	eachTable(func(family int, m hops) {
		least, e := Table(m.table(family))
		if e != api.OK {
			t.Fatal(e)
		}
		wastes(t, least, nil)
	})
	least, _ := Table(api.Table{W: 32, Routes: full()})
	wastes(t, least, nil)
}

func TestP704(t *testing.T) {
	wasted := 0
	eachTable(func(family int, m hops) {
		x := m.table(family)
		n := counted(t, x)
		waste, e := Waste(x)
		if e != api.OK {
			t.Fatal(e)
		}
		wasted += len(waste)
		for _, r := range waste {
			y := m.without(spell(r.At.Addr, r.At.Len)).table(family)
			if same, e := algebra.Equal(x, y); !same || e != api.OK || len(y.Routes) != len(x.Routes)-1 {
				t.Fatalf("P704: %v without %v leads otherwise: %v", x, r, e)
			}
			if k := counted(t, y); k != n {
				t.Fatalf("P704: Count(%v) = %d, without %v %d", x, n, r, k)
			}
		}
		for _, r := range x.Routes {
			y := m.without(spell(r.At.Addr, r.At.Len)).table(family)
			if same, _ := algebra.Equal(x, y); same != slices.Contains(waste, r) {
				t.Fatalf("P704: %v without %v leads alike: %v", x, r, same)
			}
		}
	})
	if wasted < 1000 {
		t.Errorf("only %d routes are waste", wasted)
	}
}

// TestP704OneByOne: what is waste by itself is taken out, till there is none.
func TestP704OneByOne(t *testing.T) {
	for _, family := range families {
		for _, m := range someTables(family) {
			x := m.table(family)
			n := counted(t, x)
			y := x
			for waste, _ := Waste(y); len(waste) > 0; waste, _ = Waste(y) {
				y.Routes = slices.DeleteFunc(slices.Clone(y.Routes), func(r api.Route) bool { return r == waste[len(waste)/2] })
			}
			if same, e := algebra.Equal(x, y); !same || e != api.OK || counted(t, y) != n || len(y.Routes) < n {
				t.Fatalf("P704: %v without waste: %v", x, y)
			}
		}
	}
}

// TestP2HandedIn: a table stays as it is, its spare room too; a wrong one as well.
func TestP2HandedIn(t *testing.T) {
	for _, family := range families {
		for _, m := range someTables(family) {
			right := m.table(family).Routes
			backward := slices.Clone(right)
			slices.Reverse(backward)
			for _, routes := range [][]api.Route{right, backward, append(slices.Clone(right), markRoute)} {
				l, asItWas := guarded(routes, markRoute)
				x := api.Table{W: family, Routes: l}
				Table(x)
				Count(x)
				Waste(x)
				if !asItWas() {
					t.Fatal("P2: a table that is handed in is changed")
				}
			}
		}
	}
}

// TestP2AnswersAreTheCallersOwn: what is written over an answer, or over what was handed in, changes no other one.
func TestP2AnswersAreTheCallersOwn(t *testing.T) {
	for _, family := range families {
		for _, m := range someTables(family) {
			routes, asItWas := guarded(m.table(family).Routes, markRoute)
			x := api.Table{W: family, Routes: routes}
			want, _ := Table(m.table(family))
			first, _ := Table(x)
			second, _ := Table(x)
			one, _ := Waste(x)
			two, _ := Waste(x)
			overwrite(first.Routes, markRoute)
			overwrite(one, markRoute)
			if !asItWas() {
				t.Fatal("P2: an answer shares memory with what was handed in")
			}
			overwrite(routes, markRoute)
			if !table.Same(second, want) {
				t.Fatalf("P2: a table is changed: %v, want %v", second, want)
			}
			if !slices.Equal(two, m.waste(family)) {
				t.Fatalf("P2: waste is changed: %v", two)
			}
		}
	}
}

// TestP3 asks twice, with other calls in between; which of several least tables is told is free, but it is always the same one.
func TestP3(t *testing.T) {
	for _, family := range families {
		some := someTables(family)
		var first []api.Table
		for _, m := range some {
			least, _ := Table(m.table(family))
			first = append(first, least)
		}
		for i := len(some) - 1; i >= 0; i-- {
			x := some[i].table(family)
			n, waste := counted(t, x), some[i].waste(family)
			wastes(t, x, waste)
			least, e := Table(x)
			if e != api.OK || !table.Same(least, first[i]) || counted(t, x) != n {
				t.Fatalf("P3: Table(%v) = %v, then %v", x, first[i], least)
			}
		}
	}
}

// TestP1OfAnything: every call ends, whatever routes there are.
func TestP1OfAnything(t *testing.T) {
	next := counter()
	for range 20000 {
		var x api.Table
		for range next() % 6 {
			w := api.Word{Hi: next() & next() << (next() % 64), Lo: next() & next() << (next() % 64)}
			n := int(next()%260) - 64
			if p, e := prefix.Of(128, w, n); e == api.OK && next()%4 > 0 {
				w = p.Addr
			}
			x.Routes = append(x.Routes, api.Route{At: api.Prefix{Addr: w, Len: n}, Hop: int(next()%3) + int(next()%2)*65534})
		}
		x.W = []int{32, 128, 128, int(next()), 64, 0}[next()%6]
		want := table.Check(x)
		y, e := Table(x)
		n, f := Count(x)
		l, g := Waste(x)
		if e != want || f != want || g != want {
			t.Fatalf("P1: %v: %v, %v, %v, want %v", x, e, f, g, want)
		}
		if want != api.OK && (y.W != 0 || len(y.Routes) != 0 || n != 0 || len(l) != 0) {
			t.Fatalf("P4: %v: %v, %d, %v beside %v", x, y, n, l, want)
		}
	}
}
