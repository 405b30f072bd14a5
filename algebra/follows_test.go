package algebra

import (
	"slices"
	"testing"

	"turnpike/api"
	"turnpike/prefix"
	"turnpike/table"
)

// alike asks that two tables lead alike, by their segments and by Equal, and that no error came with them.
func alike(t *testing.T, law string, a, b api.Table, errors ...api.Errno) {
	t.Helper()
	for _, e := range errors {
		if e != api.OK {
			t.Fatalf("%s: %v", law, e)
		}
	}
	x, e := Segs(a)
	y, f := Segs(b)
	if e != api.OK || f != api.OK || !slices.Equal(x, y) {
		t.Fatalf("%s: %v and %v do not lead alike: %v, %v", law, a, b, x, y)
	}
	if same, e := Equal(a, b); !same || e != api.OK {
		t.Fatalf("%s: Equal(%v, %v) = %v, %v", law, a, b, same, e)
	}
}

func TestP605ThereAndBack(t *testing.T) {
	for _, family := range families {
		tables := someTables(family)
		for _, root := range roots(family) {
			tables = append(tables, smallTrees(root, 3)...)
		}
		for _, m := range tables {
			x := m.table(family)
			l, e := Segs(x)
			back, f := Table(family, l)
			if e != api.OK || f != api.OK || table.Check(back) != api.OK {
				t.Fatalf("P605: %v: %v, %v; its table is %v", x, e, f, back)
			}
			tellsSegs(t, back, l)
			alike(t, "P605", x, back)
			leadsLikeLookup(t, x, l, back)
			apart(t, back)
		}
	}
}

// leadsLikeLookup asks of the addresses at the segments' ends that tables and segments lead them to one next hop, as the longest match does.
func leadsLikeLookup(t *testing.T, x api.Table, l []api.Seg, back api.Table) {
	t.Helper()
	for _, s := range l {
		for _, w := range []api.Word{s.First, s.Last} {
			want := table.Lookup(x, w)
			if got := table.Lookup(back, w); got != want || s.Hop != want {
				t.Fatalf("P605: %x goes to %d in %v, to %d in %v, to %d in its table", w, want, x, s.Hop, l, got)
			}
			leadsTo(t, l, w, want, true)
		}
	}
}

// apart asks that no prefix lies within another one.
func apart(t *testing.T, x api.Table) {
	t.Helper()
	for i, r := range x.Routes {
		for k, other := range x.Routes {
			if i != k && prefix.Within(r.At, other.At) {
				t.Fatalf("P605: %v lies within %v", r.At, other.At)
			}
		}
	}
}

// TestP605EqualGoesBySegs: Equal just where the Segs are the same, and Unlike tells an address just where it says no.
func TestP605EqualGoesBySegs(t *testing.T) {
	equal := 0
	eachPair(func(family int, a, b hops) {
		x, y := a.table(family), b.table(family)
		l, _ := Segs(x)
		m, _ := Segs(y)
		same, _ := Equal(x, y)
		w, found, _ := Unlike(x, y)
		if same != slices.Equal(l, m) || found == same {
			t.Fatalf("P605: %v, %v: Equal %v, Unlike %v", x, y, same, found)
		}
		if same {
			equal++
			return
		}
		hop, _ := At(l, w)
		other, _ := At(m, w)
		if hop == other || table.Lookup(x, w) == table.Lookup(y, w) {
			t.Fatalf("P605: %v, %v: both lead %x to %d", x, y, w, hop)
		}
	})
	if equal < 1000 {
		t.Errorf("only %d pairs are alike", equal)
	}
}

func TestP606OfOne(t *testing.T) {
	for _, family := range families {
		none := api.Table{W: family}
		tables := someTables(family)
		for _, root := range roots(family) {
			tables = append(tables, smallTrees(root, 3)...)
		}
		for _, m := range tables {
			x := m.table(family)
			twice, e := Over(x, x)
			alike(t, "P606: Over(t, t)", twice, x, e)
			first, e := Over(x, none)
			alike(t, "P606: Over(t, none)", first, x, e)
			second, e := Over(none, x)
			alike(t, "P606: Over(none, t)", second, x, e)
			gone, e := Less(x, x)
			answers(t, gone, e, none)
			gone, e = Less(none, x)
			answers(t, gone, e, none)
			whole, e := Less(x, none)
			alike(t, "P606: Less(t, none)", whole, x, e)
			all, e := Only(x, api.Prefix{})
			alike(t, "P606: Only of all", all, x, e)
		}
	}
}

func TestP606OfTwo(t *testing.T) {
	eachPair(func(family int, a, b hops) {
		x, y := a.table(family), b.table(family)
		less, e := Less(x, y)
		left, f := Over(less, y)
		right, g := Over(y, x)
		alike(t, "P606: Over(Less(a, b), b)", left, right, e, f, g)
	})
}

func TestP606OfThree(t *testing.T) {
	next := counter()
	for _, family := range families {
		trees := smallTrees("00001010", 3)
		for _, a := range trees {
			for _, b := range trees {
				for _, c := range trees {
					knowsNoBrackets(t, family, a, b, c)
				}
			}
		}
		some := someTables(family)
		for i, a := range some {
			knowsNoBrackets(t, family, a, some[(i+1)%len(some)], some[(i+2)%len(some)])
			knowsNoBrackets(t, family, a, some[next()%uint64(len(some))], some[next()%uint64(len(some))])
		}
	}
}

func knowsNoBrackets(t *testing.T, family int, a, b, c hops) {
	t.Helper()
	x, y, z := a.table(family), b.table(family), c.table(family)
	front, e := Over(x, y)
	left, f := Over(front, z)
	back, g := Over(y, z)
	right, h := Over(x, back)
	alike(t, "P606: Over of three", left, right, e, f, g, h)
	// It hangs on segments alone, so both are one table.
	if !table.Same(left, right) {
		t.Fatalf("P606: %v and %v", left, right)
	}
}

func TestP606OfKids(t *testing.T) {
	for _, family := range families {
		for _, m := range someTables(family) {
			x := m.table(family)
			places := somePlaces(family, m)
			for i := 0; i < len(places); i += 1 + len(places)/12 {
				p := made(places[i])
				low, high, ok := prefix.Kids(family, p)
				if !ok {
					continue
				}
				whole, e := Only(x, p)
				a, f := Only(x, low)
				b, g := Only(x, high)
				ab, h := Over(a, b)
				ba, k := Over(b, a)
				alike(t, "P606: Only of the kids", ab, whole, e, f, g, h)
				alike(t, "P606: Only of the kids", ba, whole, k)
				again, e := Only(whole, p)
				alike(t, "P606: Only of Only", again, whole, e)
			}
		}
	}
}

// TestP2HandedIn: tables and segments stay as they are, their spare room too; wrong ones as well.
func TestP2HandedIn(t *testing.T) {
	for _, family := range families {
		some := someTables(family)
		for i, m := range some {
			right, other := m.table(family).Routes, some[(i+1)%len(some)].table(family).Routes
			backward := slices.Clone(right)
			slices.Reverse(backward)
			for _, routes := range [][]api.Route{right, backward, append(slices.Clone(right), markRoute)} {
				l, asItWas := guarded(routes, markRoute)
				k, otherAsItWas := guarded(other, markRoute)
				a, b := api.Table{W: family, Routes: l}, api.Table{W: family, Routes: k}
				Segs(a)
				for _, x := range [][2]api.Table{{a, b}, {b, a}, {a, a}} {
					Equal(x[0], x[1])
					Unlike(x[0], x[1])
					Over(x[0], x[1])
					Less(x[0], x[1])
				}
				Only(a, api.Prefix{})
				Only(a, made("01"))
				if !asItWas() || !otherAsItWas() {
					t.Fatal("P2: a table that is handed in is changed")
				}
			}
			segs := m.way(family).segs()
			for _, l := range [][]api.Seg{segs, slices.Repeat(segs, 2), append(slices.Clone(segs), markSeg)} {
				l, asItWas := guarded(l, markSeg)
				Table(family, l)
				for _, s := range l {
					At(l, s.First)
				}
				if !asItWas() {
					t.Fatal("P2: segments that are handed in are changed")
				}
			}
		}
	}
}

// TestP2AnswersAreTheCallersOwn: what is written over an answer, or over what was handed in, changes no other one.
func TestP2AnswersAreTheCallersOwn(t *testing.T) {
	for _, family := range families {
		for _, m := range someTables(family) {
			routes, asItWas := guarded(m.table(family).Routes, markRoute)
			segs, segsAsTheyWere := guarded(m.way(family).segs(), markSeg)
			x := api.Table{W: family, Routes: routes}
			calls := []func() api.Table{
				func() api.Table { y, _ := Table(family, segs); return y },
				func() api.Table { y, _ := Over(x, x); return y },
				func() api.Table { y, _ := Over(api.Table{W: family}, x); return y },
				func() api.Table { y, _ := Less(x, api.Table{W: family}); return y },
				func() api.Table { y, _ := Only(x, api.Prefix{}); return y },
			}
			want := m.way(family).table()
			var kept []api.Table
			for _, call := range calls {
				first, second := call(), call()
				overwrite(first.Routes, markRoute)
				kept = append(kept, second)
			}
			one, _ := Segs(x)
			two, _ := Segs(x)
			overwrite(one, markSeg)
			if !asItWas() || !segsAsTheyWere() {
				t.Fatal("P2: an answer shares memory with what was handed in")
			}
			overwrite(routes, markRoute)
			overwrite(segs, markSeg)
			for _, y := range kept {
				if !table.Same(y, want) {
					t.Fatalf("P2: an answer is changed: %v, want %v", y, want)
				}
			}
			if !slices.Equal(two, m.way(family).segs()) {
				t.Fatalf("P2: segments are changed: %v", two)
			}
		}
	}
}

// TestP3 asks twice, with other calls in between.
func TestP3(t *testing.T) {
	type told struct {
		segs             []api.Seg
		over, less, only api.Table
		at               api.Word
	}
	for _, family := range families {
		some := someTables(family)
		ask := func(i int) (x told) {
			a, b := some[i].table(family), some[(i+3)%len(some)].table(family)
			x.segs, _ = Segs(a)
			x.over, _ = Over(a, b)
			x.less, _ = Less(a, b)
			x.only, _ = Only(a, made("0"))
			x.at, _, _ = Unlike(a, b)
			return x
		}
		var first []told
		for i := range some {
			first = append(first, ask(i))
		}
		for i := len(some) - 1; i >= 0; i-- {
			x, y := first[i], ask(i)
			if !slices.Equal(x.segs, y.segs) || !table.Same(x.over, y.over) || !table.Same(x.less, y.less) || !table.Same(x.only, y.only) || x.at != y.at {
				t.Fatalf("P3: %v is told otherwise: %v", x, y)
			}
		}
	}
}
