package algebra

import (
	"math"
	"slices"
	"testing"

	"turnpike/addr"
	"turnpike/api"
	"turnpike/prefix"
)

// tellsSegs asks that a table has just these segments.
func tellsSegs(t *testing.T, x api.Table, want []api.Seg) {
	t.Helper()
	if got, e := Segs(x); e != api.OK || !slices.Equal(got, want) {
		t.Fatalf("P601: Segs(%v) = %v, %v, want %v", x, got, e, want)
	}
}

func TestP601ByHand(t *testing.T) {
	for _, x := range []struct {
		family     int
		text, want string
	}{
		{32, "10.0.0.0/8 1 10.128.0.0/9 1", "0.0.0.0 0 10.0.0.0 1 11.0.0.0 0"},
		{32, "", "0.0.0.0 0"},
		{32, "0.0.0.0/0 7", "0.0.0.0 7"},
		{32, "0.0.0.0/0 65535", "0.0.0.0 65535"},
		{32, "0.0.0.0/32 1", "0.0.0.0 1 0.0.0.1 0"},
		{32, "255.255.255.255/32 1", "0.0.0.0 0 255.255.255.255 1"},
		{32, "0.0.0.0/0 7 0.0.0.0/32 9 255.255.255.255/32 8", "0.0.0.0 9 0.0.0.1 7 255.255.255.255 8"},
		{32, "0.0.0.0/0 7 0.0.0.0/32 7 255.255.255.255/32 7", "0.0.0.0 7"},
		{32, "0.0.0.0/1 1 128.0.0.0/1 1", "0.0.0.0 1"},
		{32, "0.0.0.0/1 1 128.0.0.0/1 2", "0.0.0.0 1 128.0.0.0 2"},
		{32, "10.0.0.0/8 1 10.0.0.0/9 2", "0.0.0.0 0 10.0.0.0 2 10.128.0.0 1 11.0.0.0 0"},
		{32, "10.0.0.0/8 1 10.128.0.0/9 2", "0.0.0.0 0 10.0.0.0 1 10.128.0.0 2 11.0.0.0 0"},
		{32, "10.0.0.0/8 1 10.0.0.0/9 2 10.128.0.0/9 2", "0.0.0.0 0 10.0.0.0 2 11.0.0.0 0"},
		{32, "10.0.0.0/8 1 10.64.0.0/16 2 10.64.1.0/24 1", "0.0.0.0 0 10.0.0.0 1 10.64.0.0 2 10.64.1.0 1 10.64.2.0 2 10.65.0.0 1 11.0.0.0 0"},
		{32, "10.0.0.0/8 1 11.0.0.0/8 1 13.0.0.0/8 1", "0.0.0.0 0 10.0.0.0 1 12.0.0.0 0 13.0.0.0 1 14.0.0.0 0"},
		{32, "10.0.0.0/8 1 10.255.255.255/32 2 11.0.0.0/32 2", "0.0.0.0 0 10.0.0.0 1 10.255.255.255 2 11.0.0.1 0"},
		{32, "240.0.0.0/4 1 255.0.0.0/8 2 255.255.255.255/32 3", "0.0.0.0 0 240.0.0.0 1 255.0.0.0 2 255.255.255.255 3"},
		{128, "", ":: 0"},
		{128, "::/0 1", ":: 1"},
		{128, "::/128 1 ffff:ffff:ffff:ffff:ffff:ffff:ffff:ffff/128 2", ":: 1 ::1 0 ffff:ffff:ffff:ffff:ffff:ffff:ffff:ffff 2"},
		{128, "2001:db8::/32 1 2001:db8::/33 1 2001:db8:0:1::/64 2", ":: 0 2001:db8:: 1 2001:db8:0:1:: 2 2001:db8:0:2:: 1 2001:db9:: 0"},
		{128, "1::/63 1 1::/64 2 1:0:0:1::/64 3", ":: 0 1:: 2 1:0:0:1:: 3 1:0:0:2:: 0"},
	} {
		tellsSegs(t, read(x.family, x.text), readSegs(x.family, x.want))
	}
}

// TestP601OfSmallTrees: all tables of the nodes of a small tree, in several places.
func TestP601OfSmallTrees(t *testing.T) {
	for _, family := range families {
		for _, root := range roots(family) {
			for _, m := range smallTrees(root, 7) {
				tellsSegs(t, m.table(family), m.way(family).segs())
			}
		}
	}
}

func TestP601OfSomeTables(t *testing.T) {
	for _, family := range families {
		for _, m := range someTables(family) {
			tellsSegs(t, m.table(family), m.way(family).segs())
		}
	}
}

// TestP601OfAFullTable: as many routes as may be; one beside the other, and all apart.
func TestP601OfAFullTable(t *testing.T) {
	for _, family := range families {
		tellsSegs(t, api.Table{W: family, Routes: full()}, fullSegs(family))
		x := api.Table{W: family}
		want := []api.Seg{{}}
		for _, r := range full() {
			// The second quarter of what it has.
			p := api.Prefix{Addr: api.Word{Hi: r.At.Addr.Hi + 1<<42}, Len: 22}
			x.Routes = append(x.Routes, api.Route{At: p, Hop: 7})
			last := prefix.Last(family, p)
			want[len(want)-1].Last, _ = addr.Prev(family, p.Addr)
			behind, _ := addr.Next(family, last)
			want = append(want, api.Seg{First: p.Addr, Last: last, Hop: 7}, api.Seg{First: behind})
		}
		want[len(want)-1].Last = ofBits(fill("", family, "1"))
		if got, e := Segs(x); e != api.OK || !slices.Equal(got, want) {
			t.Errorf("P601: Segs of %d routes has %d, %v, want %d", len(x.Routes), len(got), e, len(want))
		}
	}
}

func TestP601OfWrongTables(t *testing.T) {
	for _, family := range families {
		for _, x := range wrongTables(family) {
			if l, e := Segs(x.x); e != x.e || len(l) != 0 {
				t.Errorf("P601: Segs = %d, %v, want %v", len(l), e, x.e)
			}
		}
	}
}

// leadsTo asks what At tells of a word.
func leadsTo(t *testing.T, l []api.Seg, w api.Word, hop int, ok bool) {
	t.Helper()
	if got, found := At(l, w); got != hop || found != ok {
		t.Fatalf("P601: At(%v, %x) = %d, %v, want %d, %v", l, w, got, found, hop, ok)
	}
}

// TestP601At: at the ends of each segment, beside them, and elsewhere.
func TestP601At(t *testing.T) {
	next := counter()
	for _, family := range families {
		for _, m := range someTables(family) {
			x := m.way(family)
			l := x.segs()
			for _, p := range x.pieces() {
				leadsTo(t, l, ofBits(p.first), p.hop, true)
				leadsTo(t, l, ofBits(p.last), p.hop, true)
				for _, s := range []string{after(p.first), ahead(p.first), after(p.last), ahead(p.last)} {
					if s != "" {
						leadsTo(t, l, ofBits(s), m.next(s), true)
					}
				}
			}
			for range 20 {
				s := spell(api.Word{Hi: next(), Lo: next()}, family)
				leadsTo(t, l, ofBits(s), m.next(s), true)
			}
		}
	}
}

// TestP601AtOfFewSegments: a list of one, of two, of three and so on, at each of its ends.
func TestP601AtOfFewSegments(t *testing.T) {
	for _, family := range families {
		for n := 1; n < 20; n++ {
			m := hops{}
			for i := range n {
				m[fill(spell(api.Word{Hi: uint64(i) << 56}, 8), family, "0")] = 5
			}
			l := m.way(family).segs()
			for _, s := range l {
				leadsTo(t, l, s.First, s.Hop, true)
				leadsTo(t, l, s.Last, s.Hop, true)
			}
		}
		one := []api.Seg{{Last: ofBits(fill("", family, "1")), Hop: 3}}
		leadsTo(t, one, api.Word{}, 3, true)
		leadsTo(t, one, one[0].Last, 3, true)
		leadsTo(t, one, ofBits("00001010"), 3, true)
		one[0].Hop = 0
		leadsTo(t, one, api.Word{}, 0, true)
		leadsTo(t, one, one[0].Last, 0, true)
	}
}

// TestP601AtOfNone: of no segments, and of words that none has.
func TestP601AtOfNone(t *testing.T) {
	for _, w := range []api.Word{{}, {Lo: 1}, {Hi: 1 << 32}, lastSix} {
		leadsTo(t, nil, w, 0, false)
		leadsTo(t, []api.Seg{}, w, 0, false)
	}
	l := readSegs(32, "0.0.0.0 1 10.0.0.0 2 10.0.0.1 3 11.0.0.0 4")
	for _, s := range l {
		// These are words behind the segment's last address, and ahead of the next one's first.
		for _, w := range []api.Word{{Lo: 1}, {Hi: 1}, {Hi: math.MaxUint32, Lo: math.MaxUint64}, {Lo: 1 << 63}} {
			leadsTo(t, l, api.Word{Hi: s.Last.Hi + w.Hi, Lo: w.Lo}, 0, false)
		}
	}
	// Where segments lack, none has their addresses.
	six := readSegs(128, ":: 1 2:: 2 3:: 3 4:: 4 5:: 5")
	for i, s := range six {
		rest := slices.Delete(slices.Clone(six), i, i+1)
		leadsTo(t, rest, s.First, 0, false)
		leadsTo(t, rest, s.Last, 0, false)
		for _, other := range rest {
			leadsTo(t, rest, other.First, other.Hop, true)
			leadsTo(t, rest, other.Last, other.Hop, true)
		}
	}
}

// TestP601AtEnds: of whatever list, also one that is not in order.
func TestP601AtEnds(t *testing.T) {
	next := counter()
	for range 2000 {
		l := make([]api.Seg, next()%9)
		for i := range l {
			l[i] = api.Seg{First: api.Word{Hi: next(), Lo: next()}, Last: api.Word{Hi: next(), Lo: next()}, Hop: int(next())}
		}
		l, asItWas := guarded(l, markSeg)
		for range 5 {
			if hop, ok := At(l, api.Word{Hi: next(), Lo: next()}); !ok && hop != 0 {
				t.Fatalf("P4: At = %d beside false", hop)
			}
		}
		if !asItWas() {
			t.Fatal("P2: At changes what is handed in")
		}
	}
}
