package algebra

import (
	"slices"
	"strings"
	"testing"

	"turnpike/api"
	"turnpike/table"
)

// callsOfTwo answer a table and an error.
var callsOfTwo = map[string]func(a, b api.Table) (api.Table, api.Errno){"Over": Over, "Less": Less}

// answers asks that a call answered just this table.
func answers(t *testing.T, got api.Table, e api.Errno, want api.Table) {
	t.Helper()
	if e != api.OK || !table.Same(got, want) {
		t.Fatalf("%v, %v, want %v", got, e, want)
	}
}

// refused asks that a call answered the error, and nothing beside it.
func refused(t *testing.T, got api.Table, e, want api.Errno) {
	t.Helper()
	if e != want || got.W != 0 || len(got.Routes) != 0 {
		t.Fatalf("%d routes of family %d, %v, want %v", len(got.Routes), got.W, e, want)
	}
}

// differ asks that two tables are told to be unlike at an address of these bits first; or nowhere, if there are none.
func differ(t *testing.T, a, b api.Table, want string) {
	t.Helper()
	alike, e := Equal(a, b)
	if alike != (want == "") || e != api.OK {
		t.Fatalf("P603: Equal(%v, %v) = %v, %v", a, b, alike, e)
	}
	w, ok, e := Unlike(a, b)
	if w != ofBits(want) || ok != (want != "") || e != api.OK {
		t.Fatalf("P603: Unlike(%v, %v) = %x, %v, %v, want %s", a, b, w, ok, e, want)
	}
}

// firstUnlike tells the first address that goes two ways.
func firstUnlike(a, b way) string {
	starts := append(slices.Concat(a.starts, b.starts), fill("", a.family, "0"))
	slices.Sort(starts)
	for _, s := range starts {
		if a.next(s) != b.next(s) {
			return s
		}
	}
	return ""
}

func TestP603ByHand(t *testing.T) {
	for _, x := range []struct {
		family     int
		a, b, want string
	}{
		{32, "10.0.0.0/8 1", "10.0.0.0/9 1 10.128.0.0/9 1", ""},
		{32, "10.0.0.0/8 1", "10.0.0.0/8 1 10.128.0.0/9 1", ""},
		{32, "10.0.0.0/8 1", "10.0.0.0/8 2 10.0.0.0/9 1 10.128.0.0/9 1", ""},
		{32, "10.0.0.0/8 1", "10.1.0.0/16 2 11.0.0.0/8 3", "10.0.0.0"},
		{32, "10.0.0.0/8 1", "10.0.0.0/8 1 10.1.0.0/16 2", "10.1.0.0"},
		{32, "10.0.0.0/8 1", "10.0.0.0/9 1", "10.128.0.0"},
		{32, "10.0.0.0/8 1", "10.0.0.0/8 1 11.0.0.0/32 1", "11.0.0.0"},
		{32, "", "", ""},
		{32, "", "0.0.0.0/0 1", "0.0.0.0"},
		{32, "", "0.0.0.0/32 1", "0.0.0.0"},
		{32, "", "255.255.255.255/32 1", "255.255.255.255"},
		{32, "0.0.0.0/0 1", "0.0.0.0/1 1 128.0.0.0/1 1", ""},
		{32, "0.0.0.0/0 1", "0.0.0.0/1 1 128.0.0.0/1 1 255.255.255.255/32 2", "255.255.255.255"},
		{128, "", "::/0 65535", "::"},
		{128, "::/0 1", "::/0 1 1::/64 1 1::1/128 1", ""},
		{128, "1::/16 1", "1::/16 1 1::1/128 2", "1::1"},
		{128, "1::/64 1", "1::/64 1 1:0:0:1::/64 1", "1:0:0:1::"},
		{128, "", "ffff:ffff:ffff:ffff:ffff:ffff:ffff:ffff/128 2", "ffff:ffff:ffff:ffff:ffff:ffff:ffff:ffff"},
	} {
		a, b := read(x.family, x.a), read(x.family, x.b)
		want := ""
		if x.want != "" {
			want = spell(readWord(x.family, x.want), x.family)
		}
		differ(t, a, b, want)
		differ(t, b, a, want)
		differ(t, a, a, "")
		differ(t, b, b, "")
	}
}

func TestP603OfPairs(t *testing.T) {
	eachPair(func(family int, a, b hops) {
		differ(t, a.table(family), b.table(family), firstUnlike(a.way(family), b.way(family)))
	})
}

// eachPair hands over pairs of tables: all of three nodes of a small tree, in several places; of seven nodes some; of those without a pattern each with some others.
func eachPair(do func(family int, a, b hops)) {
	next := counter()
	for _, family := range families {
		for _, root := range roots(family) {
			trees := smallTrees(root, 3)
			for _, a := range trees {
				for _, b := range trees {
					do(family, a, b)
				}
			}
			trees = smallTrees(root, 7)
			for i := 0; i < len(trees); i += 3 {
				do(family, trees[i], trees[next()%uint64(len(trees))])
			}
		}
		some := someTables(family)
		for i, a := range some {
			for _, k := range []int{i, i + 1, i + 7, int(next() % 1000)} {
				do(family, a, some[k%len(some)])
			}
		}
	}
}

// TestP603OfFullTables: as many routes as may be, and another next hop at one of them.
func TestP603OfFullTables(t *testing.T) {
	for _, family := range families {
		a := api.Table{W: family, Routes: full()}
		for _, i := range []int{0, 1, 12345, api.MaxEntries - 1} {
			b := api.Table{W: family, Routes: slices.Clone(full())}
			b.Routes[i].Hop = 3
			want := b.Routes[i].At.Addr
			if w, ok, e := Unlike(a, b); w != want || !ok || e != api.OK {
				t.Errorf("P603: Unlike of full tables: %x, %v, %v, want %x", w, ok, e, want)
			}
		}
		if alike, e := Equal(a, api.Table{W: family, Routes: slices.Clone(full())}); !alike || e != api.OK {
			t.Errorf("P603: Equal of full tables: %v, %v", alike, e)
		}
	}
}

// refusesTwo asks that all calls of two tables answer the error, and nothing beside it.
func refusesTwo(t *testing.T, a, b api.Table, want api.Errno) {
	t.Helper()
	if alike, e := Equal(a, b); alike || e != want {
		t.Fatalf("P603: Equal = %v, %v, want %v", alike, e, want)
	}
	if w, ok, e := Unlike(a, b); w != (api.Word{}) || ok || e != want {
		t.Fatalf("P603: Unlike = %x, %v, %v, want %v", w, ok, e, want)
	}
	for _, call := range callsOfTwo {
		got, e := call(a, b)
		refused(t, got, e, want)
	}
}

// TestP603P604OfWrongTables: the first one's error, the second one's, and only then that their families are unlike.
func TestP603P604OfWrongTables(t *testing.T) {
	for _, family := range families {
		for _, other := range families {
			for _, x := range wrongTables(family) {
				for _, right := range rightTables(other) {
					refusesTwo(t, x.x, right, x.e)
					refusesTwo(t, right, x.x, x.e)
				}
				for _, y := range wrongTables(other)[:12] {
					refusesTwo(t, x.x, y.x, x.e)
				}
			}
		}
		for _, a := range rightTables(family) {
			for _, b := range rightTables(160 - family) {
				refusesTwo(t, a, b, api.ErrKind)
			}
		}
	}
}

func TestP604ByHand(t *testing.T) {
	for _, x := range []struct {
		family           int
		a, b, over, less string
	}{
		{32, "10.1.0.0/16 2 11.0.0.0/8 3", "10.0.0.0/15 1", "10.0.0.0/16 1 10.1.0.0/16 2 11.0.0.0/8 3", "11.0.0.0/8 3"},
		{32, "10.0.0.0/15 1", "10.1.0.0/16 2 11.0.0.0/8 3", "10.0.0.0/15 1 11.0.0.0/8 3", "10.0.0.0/16 1"},
		{32, "10.0.0.0/8 1", "10.0.0.0/8 2", "10.0.0.0/8 1", ""},
		{32, "10.0.0.0/8 1 10.0.0.0/9 2", "10.128.0.0/9 5", "10.0.0.0/9 2 10.128.0.0/9 1", "10.0.0.0/9 2"},
		{32, "10.0.0.0/9 1", "10.128.0.0/9 1", "10.0.0.0/8 1", "10.0.0.0/9 1"},
		{32, "", "", "", ""},
		{32, "", "0.0.0.0/0 1", "0.0.0.0/0 1", ""},
		{32, "0.0.0.0/0 1", "", "0.0.0.0/0 1", "0.0.0.0/0 1"},
		{32, "0.0.0.0/0 1", "0.0.0.0/0 2", "0.0.0.0/0 1", ""},
		{32, "0.0.0.0/0 1", "0.0.0.0/1 2", "0.0.0.0/0 1", "128.0.0.0/1 1"},
		{128, "::/128 1", "::/127 2", "::/128 1 ::1/128 2", ""},
		{128, "::/127 2", "::/128 1", "::/127 2", "::1/128 2"},
		{128, "1::/64 1", "1:0:0:1::/64 1", "1::/63 1", "1::/64 1"},
	} {
		a, b := read(x.family, x.a), read(x.family, x.b)
		over, e := Over(a, b)
		answers(t, over, e, read(x.family, x.over))
		less, e := Less(a, b)
		answers(t, less, e, read(x.family, x.less))
	}
}

// TestP604AtTheEnds: routes at the first and at the last address, over one that has all, and taken out of it.
func TestP604AtTheEnds(t *testing.T) {
	for _, family := range families {
		ends := hops{fill("", family, "0"): 1, fill("", family, "1"): 2}.table(family)
		all := api.Table{W: family, Routes: []api.Route{{Hop: 3}}}
		over, e := Over(ends, all)
		if n := len(over.Routes); e != api.OK || n != 2*family || over.Routes[0] != ends.Routes[0] || over.Routes[n-1] != ends.Routes[1] {
			t.Errorf("P604: Over: %v, %v", over, e)
		}
		less, e := Less(all, ends)
		answers(t, less, e, api.Table{W: family, Routes: over.Routes[1 : 2*family-1]})
		over, e = Over(all, ends)
		answers(t, over, e, all)
		less, e = Less(ends, all)
		answers(t, less, e, api.Table{W: family})
	}
}

func TestP604OverAndLess(t *testing.T) {
	eachPair(func(family int, a, b hops) {
		x, y := a.way(family), b.way(family)
		over, e := Over(a.table(family), b.table(family))
		answers(t, over, e, wayOver(x, y).table())
		less, e := Less(a.table(family), b.table(family))
		answers(t, less, e, wayLess(x, y).table())
	})
}

func TestP604OnlyByHand(t *testing.T) {
	for _, x := range []struct {
		family        int
		t, at, wanted string
	}{
		{32, "10.0.0.0/8 1 10.1.0.0/16 2", "10.0.0.0/15", "10.0.0.0/16 1 10.1.0.0/16 2"},
		{32, "10.0.0.0/8 1 10.1.0.0/16 2", "10.1.0.0/16", "10.1.0.0/16 2"},
		{32, "10.0.0.0/8 1 10.1.0.0/16 2", "10.1.2.0/24", "10.1.2.0/24 2"},
		{32, "10.0.0.0/8 1 10.1.0.0/16 2", "10.1.2.3/32", "10.1.2.3/32 2"},
		{32, "10.0.0.0/8 1 10.1.0.0/16 2", "11.0.0.0/8", ""},
		{32, "10.0.0.0/8 1", "0.0.0.0/0", "10.0.0.0/8 1"},
		{32, "10.0.0.0/8 1", "8.0.0.0/5", "10.0.0.0/8 1"},
		{32, "10.0.0.0/9 1 10.128.0.0/9 1", "10.0.0.0/8", "10.0.0.0/8 1"},
		{32, "0.0.0.0/0 1", "0.0.0.0/32", "0.0.0.0/32 1"},
		{32, "0.0.0.0/0 1", "255.255.255.255/32", "255.255.255.255/32 1"},
		{32, "0.0.0.0/0 1", "0.0.0.0/0", "0.0.0.0/0 1"},
		{32, "", "0.0.0.0/0", ""},
		{32, "", "10.0.0.0/8", ""},
		{128, "::/0 1 1::/16 2", "1::/16", "1::/16 2"},
		{128, "::/0 1 1::/16 2", "2::/128", "2::/128 1"},
		{128, "::/0 1", "ffff:ffff:ffff:ffff:ffff:ffff:ffff:ffff/128", "ffff:ffff:ffff:ffff:ffff:ffff:ffff:ffff/128 1"},
	} {
		got, e := Only(read(x.family, x.t), readPrefix(x.family, x.at))
		answers(t, got, e, read(x.family, x.wanted))
	}
}

// somePlaces tells prefixes that have to do with a table's: its own, those beside, above and below them, and others.
func somePlaces(family int, m hops) []string {
	next := counter()
	l := []string{"", "0", "1", fill("", family, "0"), fill("", family, "1")}
	for s := range m {
		l = append(l, s)
		if len(s) < family {
			l = append(l, s+"0", s+"1")
		}
		if n := len(s) - 1; n >= 0 {
			l = append(l, s[:n], s[:n]+string('0'+'1'-rune(s[n])), s[:n/2])
		}
	}
	for range 5 {
		l = append(l, spell(api.Word{Hi: next(), Lo: next()}, int(next()%uint64(family+1))))
	}
	slices.Sort(l)
	return slices.Compact(l)
}

func TestP604Only(t *testing.T) {
	for _, family := range families {
		tables := someTables(family)
		for _, root := range roots(family) {
			tables = append(tables, smallTrees(root, 3)...)
		}
		for _, m := range tables {
			places := somePlaces(family, m)
			for i := 0; i < len(places); i += 1 + len(places)/25 {
				p := places[i]
				got, e := Only(m.table(family), made(p))
				answers(t, got, e, wayOnly(m.way(family), p).table())
			}
		}
	}
}

// TestP604OnlyOfWrongs: the table's error, the prefix's length, its bits.
func TestP604OnlyOfWrongs(t *testing.T) {
	for _, family := range families {
		wrong := map[api.Prefix]api.Errno{}
		for _, n := range []int{-1 << 40, -1, family + 1, 129, 1 << 40} {
			wrong[api.Prefix{Len: n}] = api.ErrLen
			wrong[api.Prefix{Addr: lastSix, Len: n}] = api.ErrLen
		}
		for n := range family {
			wrong[api.Prefix{Addr: ofBits(strings.Repeat("0", n) + "1"), Len: n}] = api.ErrHost
			wrong[api.Prefix{Addr: ofBits(fill("", family, "1")), Len: n}] = api.ErrHost
		}
		if family == 32 {
			wrong[api.Prefix{Addr: api.Word{Lo: 1}, Len: 32}] = api.ErrHost
			wrong[api.Prefix{Len: 128}] = api.ErrLen
		}
		for p, want := range wrong {
			for _, x := range rightTables(family) {
				got, e := Only(x, p)
				refused(t, got, e, want)
			}
			for _, x := range wrongTables(family)[:12] {
				got, e := Only(x.x, p)
				refused(t, got, e, x.e)
			}
		}
		for _, x := range wrongTables(family) {
			for _, p := range []api.Prefix{{}, made("0"), {Len: -1}, {Addr: lastSix}} {
				got, e := Only(x.x, p)
				refused(t, got, e, x.e)
			}
		}
	}
}

// TestP604Limit: as many routes as may be, and more.
func TestP604Limit(t *testing.T) {
	for _, family := range families {
		whole := api.Table{W: family, Routes: full()}
		even, odd := api.Table{W: family}, api.Table{W: family}
		for i, r := range full() {
			if i%2 == 0 {
				even.Routes = append(even.Routes, r)
			} else {
				odd.Routes = append(odd.Routes, r)
			}
		}
		over, e := Over(even, odd)
		answers(t, over, e, whole)
		over, e = Over(odd, even)
		answers(t, over, e, whole)
		only, e := Only(whole, api.Prefix{})
		answers(t, only, e, whole)
		// A route of 21 bits within the last one leaves the other half of it.
		more := api.Table{W: family, Routes: append(slices.Clone(even.Routes), tooMany()[api.MaxEntries])}
		over, e = Over(more, odd)
		refused(t, over, e, api.ErrLimit)
		over, e = Over(odd, more)
		answers(t, over, e, whole)
		less, e := Less(whole, more)
		want := slices.Clone(odd.Routes)
		want[len(want)-1].At = made(strings.Repeat("1", 20) + "0")
		answers(t, less, e, api.Table{W: family, Routes: want})
	}
}

// TestP604LimitOfHoles: few routes whose Covers are many. Each hole of one address leaves 16 prefixes of the 16 bits in which it lies.
func TestP604LimitOfHoles(t *testing.T) {
	all := api.Table{W: 32, Routes: []api.Route{{Hop: 1}}}
	holes := api.Table{W: 32}
	for i := range uint64(1 << 16) {
		holes.Routes = append(holes.Routes, api.Route{At: api.Prefix{Addr: api.Word{Hi: i << 48}, Len: 32}, Hop: 2})
	}
	less, e := Less(all, holes)
	if e != api.OK || len(less.Routes) != api.MaxEntries || table.Check(less) != api.OK {
		t.Fatalf("P604: Less: %d routes, %v", len(less.Routes), e)
	}
	under := api.Table{W: 32, Routes: append(slices.Clone(all.Routes), holes.Routes[1:]...)}
	for _, r := range holes.Routes[:100] {
		if table.Lookup(less, r.At.Addr) != 0 || table.Lookup(less, ofBits(after(spell(r.At.Addr, 32)))) != 1 {
			t.Errorf("P604: Less beside %v", r)
		}
	}
	one := api.Route{At: api.Prefix{Addr: ofBits(fill("", 32, "1")), Len: 32}, Hop: 2}
	more := api.Table{W: 32, Routes: append(slices.Clone(holes.Routes), one)}
	less, e = Less(all, more)
	refused(t, less, e, api.ErrLimit)
	// The holes filled: their routes are too many beside those.
	only, e := Only(under, api.Prefix{})
	refused(t, only, e, api.ErrLimit)
	only, e = Only(under, made("1"))
	if e != api.OK || len(only.Routes) != (1<<15)*17 {
		t.Errorf("P604: Only: %d routes, %v", len(only.Routes), e)
	}
	over, e := Over(holes, all)
	refused(t, over, e, api.ErrLimit)
	over, e = Over(all, holes)
	answers(t, over, e, all)
}
