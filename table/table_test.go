package table

import (
	"math"
	"slices"
	"strconv"
	"strings"
	"testing"

	"turnpike/api"
)

func TestP502ByHand(t *testing.T) {
	for _, x := range []struct {
		t    api.Table
		want string
	}{
		{api.Table{W: 32}, ""}, {api.Table{W: 128, Routes: []api.Route{}}, ""},
		{api.Table{W: 32, Routes: []api.Route{{Hop: 1}}}, "0.0.0.0/0 1\n"}, {api.Table{W: 128, Routes: []api.Route{{Hop: 65535}}}, "::/0 65535\n"},
		{api.Table{W: 32, Routes: []api.Route{route4("10.0.0.0/8", 3), route4("10.1.0.0/16", 2)}}, "10.0.0.0/8 3\n10.1.0.0/16 2\n"},
		{api.Table{W: 128, Routes: []api.Route{route6("::/1", 10), route6("::1/128", 9), route6("1:0:0:2::/64", 100), route6("2001:db8::/32", 1000)}}, "::/1 10\n::1/128 9\n1:0:0:2::/64 100\n2001:db8::/32 1000\n"},
	} {
		if s, e := Text(x.t); s != x.want || e != api.OK {
			t.Errorf("P502: Text(%v) = %q, %v, want %q", x.t, s, e, x.want)
		}
	}
}

// TestP502OfManyRoutes: also as many as may be.
func TestP502OfManyRoutes(t *testing.T) {
	for _, n := range []int{1, 255, 256, 257, 65536, api.MaxEntries} {
		want, l := manyLines(n)
		if s, e := Text(api.Table{W: 32, Routes: l}); s != want || e != api.OK {
			t.Errorf("P502: Text of %d routes has %d bytes, %v, want %d", n, len(s), e, len(want))
		}
	}
	_, l := manyLines(api.MaxEntries + 1)
	if s, e := Text(api.Table{W: 32, Routes: l}); s != "" || e != api.ErrLimit {
		t.Errorf("P502: Text of too many routes has %d bytes, %v", len(s), e)
	}
}

// checks asks what Check tells of a table, and that Text tells the same, with nothing beside an error.
func checks(t *testing.T, x api.Table, want api.Errno) {
	t.Helper()
	if e := Check(x); e != want {
		t.Fatalf("P503: Check(%v) = %v, want %v", x, e, want)
	}
	if s, e := Text(x); e != want || e != api.OK && s != "" {
		t.Fatalf("P502: Text(%v) = %q, %v, want %v", x, s, e, want)
	}
}

// makes asks that Canon makes these of routes.
func makes(t *testing.T, family int, l, want []api.Route) {
	t.Helper()
	if got, e := Canon(family, l); e != api.OK || got.W != family || !slices.Equal(got.Routes, want) {
		t.Fatalf("P503: Canon(%d, %v) = %v, %v, want %v", family, l, got, e, want)
	}
}

// refuses asks that Canon answers the error, and nothing beside it.
func refuses(t *testing.T, family int, l []api.Route, want api.Errno) {
	t.Helper()
	if got, e := Canon(family, l); e != want || got.W != 0 || len(got.Routes) != 0 {
		t.Fatalf("P503: Canon(%d, %v) = %v, %v, want %v", family, l, got, e, want)
	}
}

func TestP503OfRightTables(t *testing.T) {
	next := counter()
	for _, family := range families {
		for _, m := range someTables(family) {
			x := m.table(family)
			checks(t, x, api.OK)
			makes(t, family, x.Routes, x.Routes)
			for range 3 {
				makes(t, family, mixed(x.Routes, next), x.Routes)
			}
		}
		for _, l := range [][]api.Route{nil, {}, make([]api.Route, 0, 4)} {
			checks(t, api.Table{W: family, Routes: l}, api.OK)
			makes(t, family, l, nil)
		}
	}
}

// TestP503OfAllSets: every set of the nodes of a small tree, in order and in others.
func TestP503OfAllSets(t *testing.T) {
	next := counter()
	for _, family := range families {
		trees := roots(family)
		for i, root := range trees {
			// Each tree takes its share of the sets: together they take all.
			for set := i; set < 1<<nodes; set += len(trees) {
				x := ofSet(root, set).table(family)
				checks(t, x, api.OK)
				other := mixed(x.Routes, next)
				makes(t, family, other, x.Routes)
				if !slices.Equal(other, x.Routes) {
					checks(t, api.Table{W: family, Routes: other}, api.ErrOrder)
				}
			}
		}
	}
}

// TestP503Order: two beside one another that change places, and one that stands there twice, anywhere in a table.
func TestP503Order(t *testing.T) {
	for _, family := range families {
		for _, m := range someTables(family) {
			right := m.table(family).Routes
			for i := range right {
				l := slices.Insert(slices.Clone(right), i, api.Route{At: right[i].At, Hop: 1 + i%2})
				checks(t, api.Table{W: family, Routes: l}, api.ErrOrder)
				if i == 0 {
					continue
				}
				l = slices.Clone(right)
				l[i-1], l[i] = l[i], l[i-1]
				checks(t, api.Table{W: family, Routes: l}, api.ErrOrder)
			}
		}
		// By the address, then by the length, not by the length alone; the next hop says nothing.
		a, b := api.Route{At: made("0" + fill("", 20, "1")), Hop: 9}, api.Route{At: made("1"), Hop: 1}
		checks(t, api.Table{W: family, Routes: []api.Route{a, b}}, api.OK)
		checks(t, api.Table{W: family, Routes: []api.Route{b, a}}, api.ErrOrder)
		short, long := api.Route{At: made("1"), Hop: 2}, api.Route{At: made("10"), Hop: 1}
		checks(t, api.Table{W: family, Routes: []api.Route{short, long}}, api.OK)
		checks(t, api.Table{W: family, Routes: []api.Route{long, short}}, api.ErrOrder)
		checks(t, api.Table{W: family, Routes: []api.Route{short, short}}, api.ErrOrder)
	}
	// Those that only the second half of a word tells apart.
	low, high := route6("1::1/128", 1), route6("1::2/128", 1)
	checks(t, api.Table{W: 128, Routes: []api.Route{low, high}}, api.OK)
	checks(t, api.Table{W: 128, Routes: []api.Route{high, low}}, api.ErrOrder)
}

// wrongs are routes of a family that are none, each with its error.
func wrongs(family int) map[api.Route]api.Errno {
	l := map[api.Route]api.Errno{}
	badHops := []int{math.MinInt, -65535, -1, 0, 65536, 65537, 1 << 20, 1<<32 + 1, math.MaxInt}
	for _, n := range []int{math.MinInt, -129, -1, family + 1, 129, 300, math.MaxInt} {
		for _, w := range []api.Word{{}, {Lo: 1}, {Hi: 1 << 63}, lastSix} {
			// These have bits behind the length as well, but the first, and some a wrong next hop: ErrLen is ahead of ErrHost, and that of ErrHop.
			l[api.Route{At: api.Prefix{Addr: w, Len: n}, Hop: 1}] = api.ErrLen
			l[api.Route{At: api.Prefix{Addr: w, Len: n}, Hop: 0}] = api.ErrLen
		}
	}
	for n := range family {
		for _, hop := range []int{1, 65535, 0, 65536} {
			l[api.Route{At: api.Prefix{Addr: ofBits(fill("", n, "0") + "1"), Len: n}, Hop: hop}] = api.ErrHost
			l[api.Route{At: api.Prefix{Addr: ofBits(fill("", family, "1")), Len: n}, Hop: hop}] = api.ErrHost
		}
		for _, hop := range badHops {
			l[api.Route{At: made(fill("", n, "1")), Hop: hop}] = api.ErrHop
		}
	}
	if family == 32 {
		for i := 32; i < 128; i++ {
			l[api.Route{At: api.Prefix{Addr: ofBits(strings.Repeat("0", i) + "1"), Len: 32}, Hop: 1}] = api.ErrHost
		}
	}
	for _, hop := range badHops {
		l[api.Route{Hop: hop}] = api.ErrHop
		l[api.Route{At: made(fill("", family, "1")), Hop: hop}] = api.ErrHop
	}
	return l
}

func TestP503WithAWrongRoute(t *testing.T) {
	for _, family := range families {
		low, ten := api.Route{At: made("0"), Hop: 65535}, api.Route{At: made("00001010"), Hop: 1}
		_, many := manyLines(100)
		for r, want := range wrongs(family) {
			// It may stand anywhere, also behind others that are not in order, and twice.
			for _, l := range [][]api.Route{{r}, {r, ten}, {low, r}, {low, ten, r}, {low, r, ten}, {ten, low, r}, {ten, ten, r}, {r, r}, {low, r, low}, append(slices.Clone(many), r)} {
				checks(t, api.Table{W: family, Routes: l}, want)
				refuses(t, family, l, want)
			}
		}
	}
}

func TestP503WithSeveralWrongRoutes(t *testing.T) {
	for _, family := range families {
		long := api.Route{At: api.Prefix{Len: family + 1}, Hop: 1}
		host := api.Route{At: api.Prefix{Addr: api.Word{Hi: 1 << 32}, Len: 8}, Hop: 1}
		hop := api.Route{At: made("1"), Hop: 65536}
		right, low := api.Route{At: made("1"), Hop: 1}, api.Route{At: made("01"), Hop: 2}
		for _, x := range []struct {
			l    []api.Route
			want api.Errno
		}{
			{[]api.Route{long, host, hop}, api.ErrLen}, {[]api.Route{host, long, hop}, api.ErrHost}, {[]api.Route{hop, host, long}, api.ErrHop},
			{[]api.Route{right, hop, long}, api.ErrHop}, {[]api.Route{right, low, host, hop}, api.ErrHost}, {[]api.Route{right, low, hop, host}, api.ErrHop},
			{[]api.Route{right, low, right, long, host}, api.ErrLen}, {[]api.Route{low, right, hop, long, host}, api.ErrHop},
		} {
			checks(t, api.Table{W: family, Routes: x.l}, x.want)
			refuses(t, family, x.l, x.want)
		}
	}
}

func TestP503NoFamily(t *testing.T) {
	_, many := manyLines(api.MaxEntries + 1)
	for _, family := range noFamilies {
		// Nothing in the list, nor that it is empty or too long, is ahead of the family.
		for _, l := range [][]api.Route{nil, {}, {{}}, {{Hop: 1}}, {{At: api.Prefix{Len: 300}}}, {{At: api.Prefix{Addr: lastSix, Len: 1}, Hop: 1}}, {{Hop: 1}, {Hop: 1}}, {route4("10.0.0.0/8", 1), {Hop: 1}}} {
			checks(t, api.Table{W: family, Routes: l}, api.ErrFamily)
			refuses(t, family, l, api.ErrFamily)
		}
		if e := Check(api.Table{W: family, Routes: many}); e != api.ErrFamily {
			t.Errorf("P503: Check of too many, by %d: %v", family, e)
		}
		if x, e := Canon(family, many); e != api.ErrFamily || x.W != 0 || len(x.Routes) != 0 {
			t.Errorf("P503: Canon of too many, by %d: %v", family, e)
		}
	}
}

func TestP503Limit(t *testing.T) {
	_, l := manyLines(api.MaxEntries + 1)
	full, over := l[:api.MaxEntries], l
	for _, family := range families {
		if e := Check(api.Table{W: family, Routes: full}); e != api.OK {
			t.Errorf("P503: Check of %d: %v", len(full), e)
		}
		if e := Check(api.Table{W: family, Routes: over}); e != api.ErrLimit {
			t.Errorf("P503: Check of %d: %v", len(over), e)
		}
		if x, e := Canon(family, full); e != api.OK || x.W != family || !slices.Equal(x.Routes, full) {
			t.Errorf("P503: Canon of %d: %v", len(full), e)
		}
		if x, e := Canon(family, over); e != api.ErrLimit || x.W != 0 || len(x.Routes) != 0 {
			t.Errorf("P503: Canon of %d: %v", len(over), e)
		}
		// All of one prefix: as routes they are counted ahead of that.
		one := slices.Repeat([]api.Route{{Hop: 1}}, api.MaxEntries+1)
		one[api.MaxEntries-1].Hop, one[api.MaxEntries].Hop = 2, 3
		makes(t, family, one[:api.MaxEntries], []api.Route{{Hop: 2}})
		if x, e := Canon(family, one); e != api.ErrLimit || len(x.Routes) != 0 {
			t.Errorf("P503: Canon of %d of one prefix: %v", len(one), e)
		}
		if e := Check(api.Table{W: family, Routes: one[:api.MaxEntries]}); e != api.ErrOrder {
			t.Errorf("P503: Check of %d of one prefix: %v", api.MaxEntries, e)
		}
		// It is ahead of a route's error, and of the order.
		for _, i := range []int{0, 1, api.MaxEntries / 2, api.MaxEntries} {
			bad := slices.Clone(one)
			bad[i].At.Len = -1
			if e := Check(api.Table{W: family, Routes: bad}); e != api.ErrLimit {
				t.Errorf("P503: Check of too many with a wrong one: %v", e)
			}
			if x, e := Canon(family, bad); e != api.ErrLimit || len(x.Routes) != 0 {
				t.Errorf("P503: Canon of too many with a wrong one: %v", e)
			}
		}
		bad := slices.Clone(full)
		bad[api.MaxEntries-1].Hop = 0
		if e := Check(api.Table{W: family, Routes: bad}); e != api.ErrHop {
			t.Errorf("P503: Check of a last one that is wrong: %v", e)
		}
		if _, e := Canon(family, bad); e != api.ErrHop {
			t.Errorf("P503: Canon of a last one that is wrong: %v", e)
		}
	}
}

// TestP503CanonOfManyInAnyOrder: as many as may be, from the last to the first, and each told twice.
func TestP503CanonOfManyInAnyOrder(t *testing.T) {
	_, l := manyLines(api.MaxEntries)
	back := slices.Clone(l)
	slices.Reverse(back)
	if x, e := Canon(32, back); e != api.OK || !slices.Equal(x.Routes, l) {
		t.Errorf("P503: Canon from the last to the first: %v", e)
	}
	half := l[:api.MaxEntries/2]
	var ahead []api.Route
	for _, r := range half {
		ahead = append(ahead, api.Route{At: r.At, Hop: 65535 - r.Hop})
	}
	twice := slices.Concat(ahead, half)
	if x, e := Canon(32, twice); e != api.OK || !slices.Equal(x.Routes, half) {
		t.Errorf("P503: Canon of each told twice: %v", e)
	}
	if x, e := Canon(32, slices.Concat(half, ahead)); e != api.OK || !slices.Equal(x.Routes, ahead) {
		t.Errorf("P503: Canon of each told twice, the other way round: %v", e)
	}
}

func TestP503CanonLastCounts(t *testing.T) {
	next := counter()
	for _, family := range families {
		for range 300 {
			m := hops{}
			var l []api.Route
			// Few prefixes, so that most are told often.
			for range next() % 200 {
				s := spell(api.Word{Hi: next()}, int(next()%4))
				m[s] = 1 + int(next()%65535)
				l = append(l, m.route(s))
			}
			makes(t, family, l, m.table(family).Routes)
		}
	}
	a, b := at4("10.0.0.0/8"), at4("0.0.0.0/0")
	makes(t, 32, []api.Route{{At: a, Hop: 1}, {At: b, Hop: 2}, {At: a, Hop: 7}}, []api.Route{{At: b, Hop: 2}, {At: a, Hop: 7}})
	makes(t, 32, []api.Route{{At: a, Hop: 7}, {At: a, Hop: 1}, {At: a, Hop: 7}, {At: a, Hop: 1}}, []api.Route{{At: a, Hop: 1}})
}

func TestP503Same(t *testing.T) {
	same := func(a, b api.Table, want bool) {
		t.Helper()
		if Same(a, b) != want || Same(b, a) != want {
			t.Fatalf("P503: Same(%v, %v) is not %v", a, b, want)
		}
	}
	for _, family := range families {
		all := someTables(family)
		for i, m := range all {
			x := m.table(family)
			same(x, x, true)
			same(x, m.table(family), true)
			same(x, api.Table{W: 160 - family, Routes: x.Routes}, false)
			if n := len(x.Routes); n > 0 {
				same(x, api.Table{W: family, Routes: x.Routes[:n-1]}, false)
				same(x, api.Table{W: family, Routes: x.Routes[1:]}, false)
				same(x, api.Table{W: family}, false)
				for k := range n {
					y := api.Table{W: family, Routes: slices.Clone(x.Routes)}
					y.Routes[k].Hop++
					same(x, y, false)
					y = api.Table{W: family, Routes: slices.Clone(x.Routes)}
					y.Routes[k].At.Len++
					same(x, y, false)
					y = api.Table{W: family, Routes: slices.Clone(x.Routes)}
					y.Routes[k].At.Addr.Lo ^= 1
					same(x, y, false)
				}
			}
			for _, other := range all[:i] {
				same(x, other.table(family), slices.Equal(x.Routes, other.table(family).Routes))
			}
		}
		same(api.Table{W: family}, api.Table{W: family, Routes: []api.Route{}}, true)
	}
	same(api.Table{W: 32}, api.Table{W: 128}, false)
	// It is asked of tables as they are: also of those that are not right.
	a, b := route4("10.0.0.0/8", 1), route4("9.0.0.0/8", 2)
	same(api.Table{W: 7, Routes: []api.Route{a, b}}, api.Table{W: 7, Routes: []api.Route{a, b}}, true)
	same(api.Table{W: 32, Routes: []api.Route{a, b}}, api.Table{W: 32, Routes: []api.Route{b, a}}, false)
	same(api.Table{W: 32, Routes: []api.Route{a}}, api.Table{W: 32, Routes: []api.Route{a, a}}, false)
	same(api.Table{W: 32}, api.Table{W: 33}, false)
	same(api.Table{}, api.Table{}, true)
}

func TestP503OfTheOtherFamily(t *testing.T) {
	l := []api.Route{route6("2001:db8::/33", 1)}
	checks(t, api.Table{W: 32, Routes: l}, api.ErrLen)
	refuses(t, 32, l, api.ErrLen)
	l = []api.Route{{At: api.Prefix{Addr: word6("2001:db8:1::"), Len: 32}, Hop: 1}}
	checks(t, api.Table{W: 32, Routes: l}, api.ErrHost)
	refuses(t, 32, l, api.ErrHost)
	// What is right by 32 is right by 128 too, but is written otherwise.
	x := api.Table{W: 128, Routes: []api.Route{route4("10.0.0.0/8", 1)}}
	if s, e := Text(x); s != "a00::/8 1\n" || e != api.OK {
		t.Errorf("P502: %q, %v", s, e)
	}
}

func TestP502EveryNextHop(t *testing.T) {
	for n := 1; n <= 65535; n++ {
		if s, e := Text(api.Table{W: 128, Routes: []api.Route{{Hop: n}}}); s != "::/0 "+strconv.Itoa(n)+"\n" || e != api.OK {
			t.Fatalf("P502: %q, %v", s, e)
		}
	}
}
