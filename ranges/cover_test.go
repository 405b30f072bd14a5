package ranges

import (
	"slices"
	"strings"
	"testing"

	"turnpike/addr"
	"turnpike/api"
)

// covers asks that Cover answers just these prefixes.
func covers(t *testing.T, family int, first, last api.Word, want []api.Prefix) {
	t.Helper()
	if got, e := Cover(family, first, last); e != api.OK || !slices.Equal(got, want) {
		t.Fatalf("Cover(%d, %x, %x) = %v, %v, want %v", family, first, last, got, e, want)
	}
}

// refusesRange asks that Cover answers the error, and no prefixes beside it.
func refusesRange(t *testing.T, family int, first, last api.Word, want api.Errno) {
	t.Helper()
	if got, e := Cover(family, first, last); e != want || len(got) != 0 {
		t.Fatalf("Cover(%d, %x, %x) = %v, %v, want %v", family, first, last, got, e, want)
	}
}

// parted tells the prefixes of a range from the root of all downwards: one that lies in it whole is told, one that lies in it in part is parted. The ends are texts of all their bits, whose order is that of addresses.
func parted(node, first, last string) []string {
	family := len(first)
	low, high := fill(node, family, "0"), fill(node, family, "1")
	switch {
	case high < first || low > last:
		return nil
	case low >= first && high <= last:
		return []string{node}
	}
	return append(parted(node+"0", first, last), parted(node+"1", first, last)...)
}

// someEnds are addresses as texts of bits: both ends, what lies beside them, the ends of prefixes and what lies beside those, and some without a pattern.
func someEnds(family int) []string {
	var l []string
	next := counter()
	for _, n := range []int{0, 1, 2, family/2 - 1, family / 2, family/2 + 1, family - 2, family - 1} {
		s := spell(api.Word{Hi: next(), Lo: next()}, n)
		l = append(l, fill(s, family, "0"), fill(s, family, "1"), fill(s, family-1, "0")+"1", fill(s, family-1, "1")+"0")
		l = append(l, fill(s+"0", family, "1"), fill(s+"1", family, "0"))
	}
	for range 6 {
		l = append(l, spell(api.Word{Hi: next(), Lo: next()}, family))
	}
	slices.Sort(l)
	return slices.Compact(l)
}

func TestP401Examples(t *testing.T) {
	covers(t, 32, word4("10.0.0.0"), word4("10.0.0.255"), read4("10.0.0.0/24"))
	covers(t, 32, word4("0.0.0.1"), word4("0.0.0.6"), read4("0.0.0.1/32", "0.0.0.2/31", "0.0.0.4/31", "0.0.0.6/32"))
	covers(t, 32, api.Word{}, word4("255.255.255.255"), read4("0.0.0.0/0"))
	covers(t, 32, word4("10.0.0.1"), word4("10.0.1.255"), read4("10.0.0.1/32", "10.0.0.2/31", "10.0.0.4/30", "10.0.0.8/29", "10.0.0.16/28", "10.0.0.32/27", "10.0.0.64/26", "10.0.0.128/25", "10.0.1.0/24"))
	covers(t, 32, word4("10.128.0.0"), word4("11.127.255.255"), read4("10.128.0.0/9", "11.0.0.0/9"))
	covers(t, 128, word6("::"), lastSix, read6("::/0"))
	covers(t, 128, word6("::1"), word6("::6"), read6("::1/128", "::2/127", "::4/127", "::6/128"))
	covers(t, 128, word6("0:0:0:1::"), word6("0:0:0:2::"), read6("0:0:0:1::/64", "0:0:0:2::/128"))
	covers(t, 128, word6("::ffff:ffff:ffff:ffff"), word6("0:0:0:1::"), read6("::ffff:ffff:ffff:ffff/128", "0:0:0:1::/128"))
	covers(t, 128, word6("2001:db8::"), word6("2001:db9:ffff:ffff:ffff:ffff:ffff:ffff"), read6("2001:db8::/31"))
}

func TestP401OneAddress(t *testing.T) {
	for _, family := range families {
		for _, s := range someEnds(family) {
			covers(t, family, ofBits(s), ofBits(s), []api.Prefix{made(s)})
		}
	}
}

func TestP401WhatAPrefixHas(t *testing.T) {
	for _, family := range families {
		for _, s := range someEnds(family) {
			for n := range family + 1 {
				covers(t, family, firstOf(family, s[:n]), lastOf(family, s[:n]), []api.Prefix{made(s[:n])})
			}
		}
	}
}

// TestP401AllButTheEnds: without the first address, the last one, both.
func TestP401AllButTheEnds(t *testing.T) {
	for _, family := range families {
		var up, down []api.Prefix
		for n := range family {
			up = append(up, made(strings.Repeat("0", family-1-n)+"1"))
			down = append(down, made(strings.Repeat("1", n)+"0"))
		}
		one, last := ofBits(fill("", family-1, "0")+"1"), ofBits(fill("", family, "1"))
		lastButOne := ofBits(fill("", family-1, "1") + "0")
		covers(t, family, one, last, up)
		covers(t, family, api.Word{}, lastButOne, down)
		// The greatest one of the one, and of the other, has an end that is left out.
		both := append(slices.Clone(up[:family-1]), down[1:]...)
		covers(t, family, one, lastButOne, both)
		if len(both) != 2*family-2 {
			t.Errorf("%d prefixes of %d bits", len(both), family)
		}
	}
}

func TestP401FewestOfAllSets(t *testing.T) {
	best := fewest(t)
	for _, family := range families {
		for _, root := range roots(family) {
			for a := range leaves {
				for b := a; b < leaves; b++ {
					mask := 1<<(b+1) - 1<<a
					first, last := firstOf(family, root+below(leaves+a)), lastOf(family, root+below(leaves+b))
					covers(t, family, first, last, under(root, best[mask]))
				}
			}
		}
	}
}

func TestP401PartedFromTheRoot(t *testing.T) {
	for _, family := range families {
		ends := someEnds(family)
		for i, first := range ends {
			for _, last := range ends[i:] {
				covers(t, family, ofBits(first), ofBits(last), allMade(parted("", first, last)))
			}
		}
	}
}

func TestP401AtAPrefixsEnd(t *testing.T) {
	for _, family := range families {
		for n := 2; n < family-1; n++ {
			s := strings.Repeat("01", family)[:n]
			low, high := fill(s, family, "0"), fill(s, family, "1")
			behind, okBehind := addr.Next(family, ofBits(high))
			ahead, okAhead := addr.Prev(family, ofBits(low))
			if !okBehind || !okAhead {
				t.Fatalf("%q lies at an end", s)
			}
			after, before := spell(behind, family), spell(ahead, family)
			for _, x := range [][2]string{{low, after}, {before, high}, {before, after}, {high, after}, {before, low}} {
				covers(t, family, ofBits(x[0]), ofBits(x[1]), allMade(parted("", x[0], x[1])))
			}
		}
	}
}

func TestP401NoFamily(t *testing.T) {
	wide := []api.Word{{}, {Lo: 1}, {Hi: 1}, {Hi: 1 << 63}, lastSix}
	for _, family := range noFamilies {
		for _, first := range wide {
			for _, last := range wide {
				refusesRange(t, family, first, last, api.ErrFamily)
			}
		}
	}
}

func TestP401Wide(t *testing.T) {
	last := ofBits(fill("", 32, "1"))
	for i := 32; i < 128; i++ {
		one := ofBits(strings.Repeat("0", i) + "1")
		all := ofBits(strings.Repeat("1", i+1))
		for _, w := range []api.Word{one, all} {
			for _, right := range []api.Word{{}, {Hi: 0x0a000000 << 32}, last} {
				// One of the two ways round is out of order too: ErrWide is ahead of it.
				refusesRange(t, 32, w, right, api.ErrWide)
				refusesRange(t, 32, right, w, api.ErrWide)
			}
			refusesRange(t, 32, w, w, api.ErrWide)
			refusesRange(t, 32, one, all, api.ErrWide)
			refusesRange(t, 32, all, one, api.ErrWide)
		}
		// By the other family these are addresses.
		covers(t, 128, one, one, []api.Prefix{{Addr: one, Len: 128}})
	}
}

func TestP401Order(t *testing.T) {
	for _, family := range families {
		ends := someEnds(family)
		for i, last := range ends {
			for _, first := range ends[i+1:] {
				refusesRange(t, family, ofBits(first), ofBits(last), api.ErrOrder)
			}
			if behind, ok := addr.Next(family, ofBits(last)); ok {
				refusesRange(t, family, behind, ofBits(last), api.ErrOrder)
			}
		}
	}
	refusesRange(t, 32, word4("0.0.0.2"), word4("0.0.0.1"), api.ErrOrder)
	refusesRange(t, 128, api.Word{Hi: 1}, api.Word{Lo: 1 << 63}, api.ErrOrder)
}

func TestP401AnswerIsTheCallersOwn(t *testing.T) {
	first, last := word4("0.0.0.1"), word4("0.0.0.6")
	want := read4("0.0.0.1/32", "0.0.0.2/31", "0.0.0.4/31", "0.0.0.6/32")
	a, _ := Cover(32, first, last)
	b, _ := Cover(32, first, last)
	for i := range a[:cap(a)] {
		a[:cap(a)][i] = api.Prefix{Addr: lastSix, Len: -7}
	}
	if !slices.Equal(b, want) {
		t.Errorf("another answer is changed: %v", b)
	}
	covers(t, 32, first, last, want)
}
