package algebra

import (
	"maps"
	"math"
	"slices"
	"strings"
	"testing"

	"turnpike/api"
	"turnpike/prefix"
	"turnpike/table"
)

// makes asks that Table makes just this table.
func makes(t *testing.T, l []api.Seg, want api.Table) {
	t.Helper()
	if got, e := Table(want.W, l); e != api.OK || !table.Same(got, want) {
		t.Fatalf("P602: Table(%d, %v) = %v, %v, want %v", want.W, l, got, e, want)
	}
}

// refuses asks that Table answers the error, and nothing beside it.
func refuses(t *testing.T, family int, l []api.Seg, want api.Errno) {
	t.Helper()
	if got, e := Table(family, l); e != want || got.W != 0 || len(got.Routes) != 0 {
		if len(l) > 20 {
			l = l[:20]
		}
		t.Fatalf("P602: Table(%d, %v) = %v, want %v", family, l, e, want)
	}
}

func TestP602ByHand(t *testing.T) {
	for _, x := range []struct {
		family     int
		segs, want string
	}{
		{32, "0.0.0.0 0 10.0.0.0 1 11.0.0.0 0", "10.0.0.0/8 1"},
		{32, "0.0.0.0 0", ""},
		{32, "0.0.0.0 1", "0.0.0.0/0 1"},
		{32, "0.0.0.0 65535", "0.0.0.0/0 65535"},
		{32, "0.0.0.0 1 128.0.0.0 2", "0.0.0.0/1 1 128.0.0.0/1 2"},
		{32, "0.0.0.0 1 0.0.0.1 0", "0.0.0.0/32 1"},
		{32, "0.0.0.0 0 255.255.255.255 1", "255.255.255.255/32 1"},
		{32, "0.0.0.0 0 0.0.0.1 5 0.0.0.7 0", "0.0.0.1/32 5 0.0.0.2/31 5 0.0.0.4/31 5 0.0.0.6/32 5"},
		{32, "0.0.0.0 0 10.128.0.0 7 11.128.0.0 8 12.0.0.0 0", "10.128.0.0/9 7 11.0.0.0/9 7 11.128.0.0/9 8"},
		{32, "0.0.0.0 0 10.0.0.0 1 10.0.0.4 2 10.0.0.8 1 10.0.0.16 0", "10.0.0.0/30 1 10.0.0.4/30 2 10.0.0.8/29 1"},
		{128, ":: 0", ""},
		{128, ":: 9", "::/0 9"},
		{128, ":: 0 2001:db8:: 1 2001:db8:0:1:: 2 2001:db8:0:2:: 0", "2001:db8::/64 1 2001:db8:0:1::/64 2"},
		{128, ":: 0 ::1 3 ::2 0 ffff:ffff:ffff:ffff:ffff:ffff:ffff:ffff 4", "::1/128 3 ffff:ffff:ffff:ffff:ffff:ffff:ffff:ffff/128 4"},
	} {
		makes(t, readSegs(x.family, x.segs), read(x.family, x.want))
	}
}

func TestP602OfSmallTrees(t *testing.T) {
	for _, family := range families {
		places := roots(family)
		for i, root := range places {
			trees := smallTrees(root, 7)
			// Each place takes its share of the tables: together they take all.
			for k := i; k < len(trees); k += len(places) {
				x := trees[k].way(family)
				makes(t, x.segs(), x.table())
			}
		}
	}
}

func TestP602OfSomeTables(t *testing.T) {
	for _, family := range families {
		for _, m := range someTables(family) {
			x := m.way(family)
			makes(t, x.segs(), x.table())
		}
	}
}

// TestP602OfSomeEnds: segments that begin anywhere, also in the middle of what a prefix has.
func TestP602OfSomeEnds(t *testing.T) {
	next := counter()
	for _, family := range families {
		for range 100 {
			root := spell(api.Word{Hi: next(), Lo: next()}, int(next()%uint64(family-6)))
			hop := hops{}
			for range 1 + next()%8 {
				hop[fill(root, family-6, "0")+spell(api.Word{Hi: next()}, 6)] = int(next() % 4)
				hop[spell(api.Word{Hi: next(), Lo: next()}, family)] = int(next() % 4)
			}
			x := way{family, slices.Collect(maps.Keys(hop)), func(s string) int { return hop[s] }}
			makes(t, x.segs(), x.table())
		}
	}
}

func TestP602NoFamily(t *testing.T) {
	for _, family := range noFamilies {
		for _, l := range [][]api.Seg{nil, {}, {{}}, {{Last: lastSix}}, {{First: lastSix, Hop: -1}}, readSegs(32, "0.0.0.0 1"), readSegs(128, ":: 1 5:: 2")} {
			refuses(t, family, l, api.ErrFamily)
		}
	}
}

func TestP602None(t *testing.T) {
	for _, family := range families {
		refuses(t, family, nil, api.ErrNone)
		refuses(t, family, []api.Seg{}, api.ErrNone)
		refuses(t, family, make([]api.Seg, 0, 5), api.ErrNone)
	}
}

func TestP602Wide(t *testing.T) {
	last := ofBits(fill("", 32, "1"))
	for i := 32; i < 128; i++ {
		one := ofBits(strings.Repeat("0", i) + "1")
		high := ofBits(strings.Repeat("1", i+1))
		for _, l := range [][]api.Seg{
			{{First: one, Last: last}}, {{Last: one}}, {{Last: high}}, {{First: one, Last: one}}, {{First: high, Last: one}}, {{First: one}}, {{First: high}},
			// It is ahead of the hop and of the order in one segment.
			{{First: one, Last: last, Hop: -1}}, {{Last: high, Hop: 65536}}, {{First: high, Last: one, Hop: 65536}},
			{{Last: ofBits("0111"), Hop: 1}, {First: one, Last: last, Hop: 1}},
			// The second one is wrong, or the one ahead is.
			{{Last: ofBits(fill("0", 32, "1")), Hop: 1}, {First: ofBits("1"), Last: high}}, {{Last: high}, {First: ofBits("1"), Last: last, Hop: -1}},
		} {
			refuses(t, 32, l, api.ErrWide)
		}
		// By the other family these are addresses.
		if i < 127 {
			refuses(t, 128, []api.Seg{{Last: one}}, api.ErrOrder)
		}
	}
}

func TestP602Hop(t *testing.T) {
	for _, family := range families {
		last := ofBits(fill("", family, "1"))
		half, rest := ofBits(fill("0", family, "1")), ofBits("1")
		for _, hop := range []int{math.MinInt, -65535, -1, 65536, 65537, 1 << 20, 1 << 32, math.MaxInt} {
			for _, l := range [][]api.Seg{
				{{Last: last, Hop: hop}}, {{Last: half, Hop: hop}, {First: rest, Last: last}}, {{Last: half}, {First: rest, Last: last, Hop: hop}},
				// It is ahead of the order, in one segment and of one further back.
				{{First: rest, Last: last, Hop: hop}}, {{First: rest, Last: half, Hop: hop}}, {{Last: half, Hop: hop}}, {{Last: half, Hop: 2}, {Last: last, Hop: hop}},
				{{Last: half, Hop: hop}, {First: half, Last: last, Hop: hop}}, {{Last: half, Hop: hop}, {First: api.Word{Lo: 1}, Last: lastSix, Hop: 7}},
			} {
				refuses(t, family, l, api.ErrHop)
			}
		}
		for _, hop := range []int{1, 2, 65534, 65535} {
			makes(t, []api.Seg{{Last: last, Hop: hop}}, api.Table{W: family, Routes: []api.Route{{Hop: hop}}})
		}
	}
}

func TestP602Order(t *testing.T) {
	for _, family := range families {
		last := ofBits(fill("", family, "1"))
		lastButOne := ofBits(ahead(fill("", family, "1")))
		one := ofBits(after(fill("", family, "0")))
		half, rest := ofBits(fill("0", family, "1")), ofBits("1")
		behindRest, aheadHalf := ofBits(after(fill("1", family, "0"))), ofBits(ahead(fill("0", family, "1")))
		for _, l := range [][]api.Seg{
			// The first address lacks, and the last one.
			{{First: one, Last: last, Hop: 1}}, {{First: last, Last: last, Hop: 1}}, {{Last: lastButOne, Hop: 1}}, {{Hop: 1}}, {{}},
			{{First: one, Last: half, Hop: 1}, {First: rest, Last: last}}, {{Last: half, Hop: 1}, {First: rest, Last: lastButOne}}, {{Last: half, Hop: 1}, {First: rest, Last: rest}},
			{{Last: half, Hop: 1}},
			// A gap, and one over the other.
			{{Last: half, Hop: 1}, {First: behindRest, Last: last}}, {{Last: aheadHalf, Hop: 1}, {First: rest, Last: last}},
			{{Last: half, Hop: 1}, {First: half, Last: last}}, {{Last: rest, Hop: 1}, {First: rest, Last: last}}, {{Last: last, Hop: 1}, {First: rest, Last: last}}, {{Last: half, Hop: 1}, {Last: last}},
			// Not in order, and one twice.
			{{First: rest, Last: last, Hop: 1}, {Last: half}}, {{Last: half, Hop: 1}, {Last: half, Hop: 1}, {First: rest, Last: last}}, {{Last: half, Hop: 1}, {First: rest, Last: last}, {First: rest, Last: last, Hop: 1}},
			// Behind the last address there is none, not the first one again.
			{{Last: last, Hop: 1}, {Last: last, Hop: 2}}, {{Last: last, Hop: 1}, {Last: half, Hop: 2}}, {{Last: half}, {First: rest, Last: last, Hop: 1}, {Last: half}, {First: rest, Last: last, Hop: 1}}, {{Last: last, Hop: 1}, {First: last, Last: last, Hop: 2}},
			{{Last: last, Hop: 1}, {}},
			// A last address ahead of the first one.
			{{First: one}}, {{Last: half, Hop: 1}, {First: rest, Last: half}, {First: rest, Last: last, Hop: 1}}, {{Last: half, Hop: 1}, {First: rest}, {First: one, Last: last, Hop: 1}}, {{First: last}}, {{First: last, Last: lastButOne}},
			// Neighbours with the same Hop.
			{{Last: half, Hop: 1}, {First: rest, Last: last, Hop: 1}}, {{Last: half}, {First: rest, Last: last}}, {{Hop: 1}, {First: one, Last: half, Hop: 2}, {First: rest, Last: last, Hop: 2}}, {{Hop: 65535}, {First: one, Last: half, Hop: 65535}, {First: rest, Last: last, Hop: 2}},
		} {
			refuses(t, family, l, api.ErrOrder)
		}
		// Those with the same Hop that are not neighbours are right.
		makes(t, []api.Seg{{Hop: 1}, {First: one, Last: lastButOne}, {First: last, Last: last, Hop: 1}}, api.Table{W: family, Routes: []api.Route{{At: api.Prefix{Len: family}, Hop: 1}, {At: api.Prefix{Addr: last, Len: family}, Hop: 1}}})
	}
}

// TestP602FirstWrongSegment: of several that are wrong the first one tells the error, each time by its own.
func TestP602FirstWrongSegment(t *testing.T) {
	right := readSegs(32, "0.0.0.0 1 10.0.0.0 2 11.0.0.0 0 12.0.0.0 1 13.0.0.0 4 14.0.0.0 5")
	spoil := map[api.Errno]func(*api.Seg){
		api.ErrWide:  func(s *api.Seg) { s.Last.Lo = 1 },
		api.ErrHop:   func(s *api.Seg) { s.Hop = 65536 },
		api.ErrOrder: func(s *api.Seg) { s.First.Hi += 1 << 32 },
	}
	for e, one := range spoil {
		for f, other := range spoil {
			for i := range right {
				l := slices.Clone(right)
				one(&l[i])
				refuses(t, 32, l, e)
				for k := i + 1; k < len(l); k++ {
					l := slices.Clone(l)
					other(&l[k])
					refuses(t, 32, l, e)
				}
				// Both in one: by the order of the errors.
				other(&l[i])
				first := min(order(e), order(f))
				refuses(t, 32, l, []api.Errno{api.ErrWide, api.ErrHop, api.ErrOrder}[first])
			}
		}
	}
	// One that ends too early makes the next one wrong, which has an error ahead of that.
	l := slices.Clone(right)
	l[2].Last.Hi -= 1 << 32
	refuses(t, 32, l, api.ErrOrder)
	l[3].Hop = -1
	refuses(t, 32, l, api.ErrHop)
	l[3].First.Hi++
	refuses(t, 32, l, api.ErrWide)
	l[2].Hop = -1
	refuses(t, 32, l, api.ErrHop)
}

func order(e api.Errno) int {
	return slices.Index([]api.Errno{api.ErrWide, api.ErrHop, api.ErrOrder}, e)
}

// TestP602Anywhere: each way to spoil a segment, at each place of a long list.
func TestP602Anywhere(t *testing.T) {
	for _, family := range families {
		for _, m := range someTables(family) {
			right := m.way(family).segs()
			for i := range right {
				gone := slices.Delete(slices.Clone(right), i, i+1)
				if len(gone) == 0 {
					refuses(t, family, gone, api.ErrNone)
				} else {
					refuses(t, family, gone, api.ErrOrder)
				}
				refuses(t, family, slices.Insert(slices.Clone(right), i, right[i]), api.ErrOrder)
				l := slices.Clone(right)
				l[i].Hop = -1
				refuses(t, family, l, api.ErrHop)
				if i > 0 {
					l[i].Hop = l[i-1].Hop
					refuses(t, family, l, api.ErrOrder)
					l[i-1], l[i] = right[i], right[i-1]
					refuses(t, family, l, api.ErrOrder)
				}
			}
		}
	}
}

func TestP602Limit(t *testing.T) {
	for _, family := range families {
		l := fullSegs(family)
		makes(t, l, api.Table{W: family, Routes: full()})
		// The last one made two: one route more.
		end := len(l) - 1
		low, high, _ := prefix.Kids(family, full()[end].At)
		more := append(slices.Clone(l), api.Seg{First: high.Addr, Last: l[end].Last, Hop: 3})
		more[end].Last = prefix.Last(family, low)
		refuses(t, family, more, api.ErrLimit)
		// Without one of them it is as many again: what goes nowhere has no routes.
		more[end].Hop = 0
		makes(t, more, api.Table{W: family, Routes: append(slices.Clone(full()[:end]), api.Route{At: high, Hop: 3})})
		// One segment whose Cover has one prefix too many, in front, and at the end.
		for _, n := range []int{0, end} {
			cut := slices.Clone(l)
			cut[n].Hop = 0
			low, high, _ := prefix.Kids(family, full()[n].At)
			_, part, _ := prefix.Kids(family, low)
			three := api.Seg{First: part.Addr, Last: prefix.Last(family, high), Hop: 9}
			cut = slices.Insert(cut, n+1, three)
			cut[n].Last = ofBits(ahead(spell(part.Addr, family)))
			refuses(t, family, cut, api.ErrLimit)
			// A wrong segment is told ahead of that, wherever it stands.
			cut[len(cut)-2].Hop = 70000
			refuses(t, family, cut, api.ErrHop)
			cut[len(cut)-1].Last = api.Word{}
			refuses(t, family, cut[len(cut)-1:], api.ErrOrder)
		}
		// All go nowhere but some: many segments, few routes.
		nowhere := slices.Clone(more)
		nowhere[end].Hop = 3
		for i := range nowhere {
			if i%2 == 0 {
				nowhere[i].Hop = 0
			}
		}
		if x, e := Table(family, nowhere); e != api.OK || len(x.Routes) != api.MaxEntries/2 {
			t.Errorf("P602: %d routes, %v", len(x.Routes), e)
		}
	}
}
