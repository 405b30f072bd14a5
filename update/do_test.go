package update

import (
	"math"
	"slices"
	"strings"
	"testing"

	"turnpike/api"
	"turnpike/fib"
	"turnpike/table"
)

func TestP2202Example(t *testing.T) {
	l, m := begun(t, 32, hops{dotted(10): 1}, 4, api.MaxImage)
	doesTell(t, l, m, api.OK, set(dotted(10, 1), 2), drop(dotted(10)))
	if got := l.Table(); !table.Same(got, hops{dotted(10, 1): 2}.table(32)) {
		t.Errorf("P2202: %v", got)
	}
	doesTell(t, l, m, api.ErrNone, set(dotted(10, 1), 3), drop(dotted(11)))
	if got := l.Table(); !table.Same(got, hops{dotted(10, 1): 2}.table(32)) || l.Log() != 1 {
		t.Errorf("P2202: %v", got)
	}
	if e := undoes(t, l, m); e != api.OK || !table.Same(l.Table(), hops{dotted(10): 1}.table(32)) {
		t.Errorf("P2203: %v, %v", l.Table(), e)
	}
	if e := undoes(t, l, m); e != api.ErrShut || !table.Same(l.Table(), hops{dotted(10): 1}.table(32)) {
		t.Errorf("P2203: %v, %v", l.Table(), e)
	}
}

func TestP2202ByHand(t *testing.T) {
	for _, family := range families {
		all := strings.Repeat("1", family)
		for _, x := range []struct {
			h    hops
			c    []api.Change
			want hops
		}{
			{hops{"0": 1}, nil, hops{"0": 1}}, {nil, nil, nil},
			// Set: one more, the same again, another next hop; ahead of all, between, behind all.
			{nil, changes(set("", 1)), hops{"": 1}}, {nil, changes(set(all, 65535)), hops{all: 65535}},
			{hops{"0": 1}, changes(set("0", 1)), hops{"0": 1}}, {hops{"0": 1}, changes(set("0", 2)), hops{"0": 2}},
			{hops{"0": 1, "1": 2}, changes(set("01", 3)), hops{"0": 1, "01": 3, "1": 2}}, {hops{"0": 1, "1": 2}, changes(set("", 3), set(all, 4)), hops{"": 3, "0": 1, "1": 2, all: 4}},
			{hops{"00": 1}, changes(set("0", 1), set("", 1)), hops{"": 1, "0": 1, "00": 1}}, {hops{"1": 2, "11": 2}, changes(set("11", 3), set("0", 4), set("10", 5)), hops{"0": 4, "1": 2, "10": 5, "11": 3}},
			// Drop: the only one, the first, the last, all; what lies within stays.
			{hops{"0": 1}, changes(drop("0")), nil}, {hops{"": 1, "0": 2, "1": 3}, changes(drop("")), hops{"0": 2, "1": 3}}, {hops{"": 1, "0": 2, "1": 3}, changes(drop("1")), hops{"": 1, "0": 2}},
			{hops{"": 1, "0": 2, "1": 3}, changes(drop("0")), hops{"": 1, "1": 3}}, {hops{"": 1, "0": 2, "1": 3}, changes(drop("1"), drop(""), drop("0")), nil}, {hops{all: 1, "": 1}, changes(drop(all)), hops{"": 1}},
			// Several of one prefix: the last one counts; one sets what a later one drops, and the other way round.
			{nil, changes(set("0", 1), set("0", 2), set("0", 3)), hops{"0": 3}}, {nil, changes(set("0", 1), drop("0")), nil}, {hops{"1": 1}, changes(set("0", 1), set("1", 5), drop("0"), drop("1")), nil},
			{hops{"0": 1}, changes(drop("0"), set("0", 2)), hops{"0": 2}}, {hops{"0": 1}, changes(drop("0"), set("0", 1)), hops{"0": 1}}, {hops{"0": 1}, changes(drop("0"), set("0", 2), drop("0")), nil}, {hops{"0": 1}, changes(set("0", 2), drop("0"), set("1", 1), set("0", 3)), hops{"0": 3, "1": 1}},
			{hops{"0": 1}, changes(drop("0"), set("0", 2), drop("0"), set("0", 1), set("0", 1)), hops{"0": 1}},
		} {
			l, m := begun(t, family, x.h, 32, math.MaxInt)
			switch e := does(t, l, m, x.c); {
			case e != api.OK:
				t.Errorf("P2202: Do(%v) of %v: %v", x.c, x.h, e)
			case !table.Same(l.Table(), x.want.table(family)):
				t.Errorf("P2202: Do(%v) of %v: %v", x.c, x.h, l.Table())
			}
		}
	}
}

// TestP2202Errors: each by itself, of a table that has routes and of one that has none.
func TestP2202Errors(t *testing.T) {
	for _, family := range families {
		l, m := begun(t, family, hops{"": 1, "0": 2, "01": 3}, 3, api.MaxImage)
		none, n := begun(t, family, nil, 3, api.MaxImage)
		both := func(e api.Errno, c api.Change) {
			t.Helper()
			doesTell(t, l, m, e, c)
			doesTell(t, none, n, e, c)
		}
		for _, kind := range noKinds {
			both(api.ErrKind, api.Change{Kind: kind})
			both(api.ErrKind, api.Change{Kind: kind, Route: set("0", 1).Route})
			both(api.ErrKind, api.Change{Kind: kind, Route: drop("0").Route})
		}
		for _, c := range changes(set("", 1), drop("")) {
			for _, size := range []int{math.MinInt, -32, -1, family + 1, 129, 256, 256 + 8, 1 << 32, 1<<32 + 8, math.MaxInt} {
				c.Route.At.Len = size
				both(api.ErrLen, c)
			}
			// A bit is set behind the prefix's own, or behind the family's.
			for size := range family + 1 {
				for _, bit := range []int{size, size + 1, (size + 127) / 2, 127} {
					if bit >= size && bit < 128 {
						c.Route.At = api.Prefix{Addr: wordOf(strings.Repeat("0", bit) + "1"), Len: size}
						both(api.ErrHost, c)
					}
				}
			}
		}
		for _, hop := range noHops {
			both(api.ErrHop, set("0", hop))
			if hop != 0 {
				both(api.ErrArg, api.Change{Kind: api.CDrop, Route: set("0", hop).Route})
			}
		}
		for _, hop := range []int{1, 2, 65535} {
			both(api.ErrArg, api.Change{Kind: api.CDrop, Route: set("0", hop).Route})
		}
		for _, s := range []string{"1", "00", "010", "011", "11", strings.Repeat("0", family), strings.Repeat("1", family)} {
			both(api.ErrNone, drop(s))
		}
		doesTell(t, none, n, api.ErrNone, drop(""))
		if l.Log() != 0 || none.Log() != 0 {
			t.Error("P2202: an error can be undone")
		}
	}
}

// wrongsOf are changes of which each has several errors, its error the first one of them.
func wrongsOf(family int) map[api.Errno][]api.Change {
	bad := api.Prefix{Addr: wordOf("01"), Len: 1}
	long := api.Prefix{Addr: wordOf("01"), Len: family + 1}
	m := map[api.Errno][]api.Change{}
	for _, hop := range []int{-1, 65536} {
		for _, p := range []api.Prefix{at("0"), at("111"), bad, long} {
			m[api.ErrKind] = append(m[api.ErrKind], api.Change{Kind: 0, Route: api.Route{At: p, Hop: hop}}, api.Change{Kind: 3, Route: api.Route{At: p, Hop: hop}})
		}
		for _, kind := range []int{api.CSet, api.CDrop} {
			m[api.ErrLen] = append(m[api.ErrLen], api.Change{Kind: kind, Route: api.Route{At: long, Hop: hop}})
			m[api.ErrHost] = append(m[api.ErrHost], api.Change{Kind: kind, Route: api.Route{At: bad, Hop: hop}})
		}
		m[api.ErrHop] = append(m[api.ErrHop], set("0", hop), set("111", hop))
		m[api.ErrArg] = append(m[api.ErrArg], api.Change{Kind: api.CDrop, Route: set("111", hop).Route}, api.Change{Kind: api.CDrop, Route: set("111", 1).Route})
	}
	m[api.ErrNone] = changes(drop("111"), drop("1"))
	return m
}

// TestP2202FirstError: within a change in the order that the promise names; of several changes that of the first one that has one.
func TestP2202FirstError(t *testing.T) {
	for _, family := range families {
		// By this limit nothing more than these routes has room: were all made that are right, it would be ErrSize.
		h := hops{"": 1, "0": 2, "01": 3}
		n, _ := fib.Size(h.table(family), 2)
		l, m := begun(t, family, h, 2, n)
		doesTell(t, l, m, api.ErrSize, set("1011", 7))
		wrongs := wrongsOf(family)
		for e, some := range wrongs {
			for _, c := range some {
				doesTell(t, l, m, e, c)
				doesTell(t, l, m, e, set("1011", 7), c)
				doesTell(t, l, m, e, c, set("1011", 7))
				for _, others := range wrongs {
					doesTell(t, l, m, e, c, others[0])
					doesTell(t, l, m, e, set("01", 4), drop(""), c, set("10", 1), others[len(others)-1])
				}
			}
		}
	}
}

// TestP2202OneBehindTheOther: whether there is a route to drop is asked of the table as it is by then.
func TestP2202OneBehindTheOther(t *testing.T) {
	for _, family := range families {
		l, m := begun(t, family, hops{"0": 1}, 2, api.MaxImage)
		doesTell(t, l, m, api.ErrNone, drop("0"), drop("0"))
		doesTell(t, l, m, api.ErrNone, drop("1"), set("1", 1))
		doesTell(t, l, m, api.ErrNone, set("1", 1), drop("1"), drop("1"))
		doesTell(t, l, m, api.ErrNone, drop("0"), set("0", 1), drop("0"), drop("0"), set("0", 1))
		doesTell(t, l, m, api.OK, set("1", 1), drop("1"), set("1", 2), drop("1"))
		// What was made ahead of an error is not there.
		doesTell(t, l, m, api.ErrKind, set("1", 1), api.Change{})
		doesTell(t, l, m, api.ErrNone, drop("1"))
		doesTell(t, l, m, api.ErrHop, drop("0"), set("0", 0))
		doesTell(t, l, m, api.OK, drop("0"))
		doesTell(t, l, m, api.ErrNone, drop("0"))
	}
}

// TestP2202NothingChanges: of no changes, and of such as change nothing, the Do can be undone all the same.
func TestP2202NothingChanges(t *testing.T) {
	for _, family := range families {
		l, m := begun(t, family, hops{"0": 1, "11": 2}, 2, api.MaxImage)
		for n, c := range [][]api.Change{nil, {}, changes(set("0", 1)), changes(set("0", 1), set("11", 2)), changes(set("1", 1), drop("1")), changes(drop("0"), set("0", 1)), changes(set("0", 5), set("0", 1)), nil} {
			doesTell(t, l, m, api.OK, c...)
			if l.Log() != n+1 {
				t.Fatalf("P2202: Log: %d; want %d", l.Log(), n+1)
			}
		}
		doesTell(t, l, m, api.OK, set("0", 3))
		for l.Log() > 0 {
			undoes(t, l, m)
		}
	}
}

// TestP2202Size: more bytes than there may be, by New's limit, by MaxImage, by a node's bits.
func TestP2202Size(t *testing.T) {
	h, more := hops{"0": 1, "10": 2}, changes(set("0111", 3))
	behind, _ := doneBy(32, h, more)
	n, _ := fib.Size(behind.table(32), 2)
	l, m := begun(t, 32, h, 2, n)
	doesTell(t, l, m, api.OK, more...)
	undoes(t, l, m)
	l, m = begun(t, 32, h, 2, n-1)
	doesTell(t, l, m, api.ErrSize, more...)
	doesTell(t, l, m, api.OK, append(more, drop("0111"))...)
	// On the way there would have been no room.
	doesTell(t, l, m, api.OK, append(more, drop("0111"), set("10", 3))...)
	for _, family := range families {
		l, m = begun(t, family, hops{"1": 1}, 1, math.MaxInt)
		doesTell(t, l, m, api.ErrSize, set(strings.Repeat("0", 25), 1))
		doesTell(t, l, m, api.OK, set("", 1))
	}
}

// doesToMany is Do of a great table, of which it is asked that with an error nothing has changed.
func doesToMany(t *testing.T, l *Live, want api.Errno, c ...api.Change) {
	t.Helper()
	was, image, log := l.Table(), l.Image(), l.Log()
	if e := l.Do(c); e != want {
		t.Fatalf("P2202: Do of %d changes: %v; want %v", len(c), e, want)
	}
	if want != api.OK && (!table.Same(l.Table(), was) || !slices.Equal(l.Image(), image) || l.Log() != log) {
		t.Fatalf("P2202: %v has changed something", want)
	}
	if want == api.OK && l.Log() != log+1 {
		t.Fatalf("P2202: Log is %d behind %d", l.Log(), log)
	}
}

// TestP2202Limit: how many routes there are counts when all changes are made.
func TestP2202Limit(t *testing.T) {
	full := fullTable(32, 1)
	n, _ := fib.Size(full, 1)
	l, e := New(full, 1, n)
	if e != api.OK {
		t.Fatal(e)
	}
	ones := strings.Repeat("1", 20)
	doesToMany(t, l, api.ErrLimit, set("", 1))
	// The image would be too long as well.
	doesToMany(t, l, api.ErrLimit, set(ones+"1", 2))
	doesToMany(t, l, api.ErrLimit, set("", 1), set("0", 1), drop(ones))
	doesToMany(t, l, api.ErrLimit, drop(ones), set("1", 1), set("0", 1))
	// An error of a change comes first, wherever it stands.
	doesToMany(t, l, api.ErrKind, set("", 1), api.Change{})
	doesToMany(t, l, api.ErrNone, set("", 1), set("0", 1), drop("1"))
	doesToMany(t, l, api.ErrHop, set("", 1), set("0", 0))
	// More on the way.
	doesToMany(t, l, api.ErrSize, set("", 2), drop(ones))
	doesToMany(t, l, api.OK, set("", 1), drop(ones))
	doesToMany(t, l, api.OK, set(ones, 1), set("0", 1), set("00", 1), drop("00"), drop("0"), drop(""))
	if !table.Same(l.Table(), full) {
		t.Error("P2202: another table")
	}
	doesToMany(t, l, api.OK, set(ones, 1))
	// Many more changes than there may be routes.
	var all []api.Change
	for _, r := range full.Routes {
		all = append(all, api.Change{Kind: api.CSet, Route: api.Route{At: api.Prefix{Addr: r.At.Addr, Len: 21}, Hop: 1}})
	}
	doesToMany(t, l, api.ErrLimit, all...)
	for _, r := range full.Routes {
		all = append(all, api.Change{Kind: api.CDrop, Route: api.Route{At: r.At}})
	}
	doesToMany(t, l, api.ErrSize, all...)
	doesToMany(t, l, api.OK, all[1<<20:]...)
	if got := l.Table(); len(got.Routes) != 0 || len(l.Image()) != 20 {
		t.Errorf("P2202: %d routes are left, %d bytes", len(got.Routes), len(l.Image()))
	}
	doesToMany(t, l, api.ErrNone, all[1<<20])
	for l.Undo() == api.OK {
	}
	if !table.Same(l.Table(), full) || len(l.Image()) != n {
		t.Error("P2203: undone as far as can be it is another table")
	}
}

// TestP2202Log: at most 256 can be undone.
func TestP2202Log(t *testing.T) {
	l, m := begun(t, 32, nil, 2, api.MaxImage)
	for n := range 600 {
		doesTell(t, l, m, api.OK, set("0", n+1))
		if want := min(n+1, 256); l.Log() != want {
			t.Fatalf("P2202: Log behind %d: %d; want %d", n+1, l.Log(), want)
		}
	}
}

// TestP2202AsTheChapterSays: over many tables and changes, right ones and wrong ones.
func TestP2202AsTheChapterSays(t *testing.T) {
	next := counter()
	told := map[api.Errno]int{}
	for range 1500 {
		family := one(next, families...)
		h, depth := someHops(next, family), one(next, 1, 2, 3, 4, 8, family)
		n, e := fib.Size(h.table(family), depth)
		if e != api.OK || n > 20000 {
			continue
		}
		l, m := begun(t, family, h, depth, n+one(next, 0, 40, 400, 4000))
		for range upTo(next, 12) {
			told[does(t, l, m, someChanges(next, family, m.now(), one(next, 0, 10)))]++
		}
	}
	for _, e := range []api.Errno{api.OK, api.ErrKind, api.ErrLen, api.ErrHost, api.ErrHop, api.ErrArg, api.ErrNone, api.ErrSize} {
		if told[e] < 20 {
			t.Errorf("of %v only %d", e, told[e])
		}
	}
}
