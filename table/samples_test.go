package table

import (
	"maps"
	"math"
	"slices"
	"strconv"
	"strings"
	"testing"

	"turnpike/addr"
	"turnpike/api"
	"turnpike/prefix"
)

var (
	families = []int{32, 128}
	// noFamilies are numbers that are no family, those beside one and far off among them.
	noFamilies = []int{math.MinInt, -128, -32, -1, 0, 1, 8, 16, 31, 33, 64, 96, 127, 129, 160, 256, math.MaxInt}
	lastSix    = api.Word{Hi: math.MaxUint64, Lo: math.MaxUint64}
	mark       = api.Route{At: api.Prefix{Addr: api.Word{Hi: 0xdead, Lo: 0xbeef}, Len: 77}, Hop: -5}
)

// spell writes the first n bits of a word as signs 0 and 1. What the document says of prefixes and addresses is said of such texts by the library's strings: the tests hold the one against the other.
func spell(w api.Word, n int) string {
	b := make([]byte, n)
	for i := range n {
		half, at := w.Hi, 63-i
		if i >= 64 {
			half, at = w.Lo, 127-i
		}
		b[i] = '0' + byte(half>>at&1)
	}
	return string(b)
}

// ofBits is the word that begins with these bits.
func ofBits(s string) api.Word {
	var w api.Word
	for i := range len(s) {
		if s[i] == '0' {
			continue
		}
		if i < 64 {
			w.Hi |= 1 << (63 - i)
		} else {
			w.Lo |= 1 << (127 - i)
		}
	}
	return w
}

// made is the prefix of these bits.
func made(s string) api.Prefix {
	return api.Prefix{Addr: ofBits(s), Len: len(s)}
}

// fill makes a text as long as an address by more signs of one kind.
func fill(s string, family int, sign string) string {
	return s + strings.Repeat(sign, family-len(s))
}

// counter makes numbers without a pattern, always the same ones.
func counter() func() uint64 {
	x := uint64(0x9e3779b97f4a7c15)
	return func() uint64 {
		x ^= x << 13
		x ^= x >> 7
		x ^= x << 17
		return x
	}
}

// mixed is the list in another order.
func mixed[T any](l []T, next func() uint64) []T {
	l = slices.Clone(l)
	for i := len(l) - 1; i > 0; i-- {
		k := int(next() % uint64(i+1))
		l[i], l[k] = l[k], l[i]
	}
	return l
}

// hops says of bits to which next hop their prefix leads: a table as the tests know it. The order of such texts is that of prefixes.
type hops map[string]int

func (m hops) keys() []string {
	return slices.Sorted(maps.Keys(m))
}

func (m hops) route(s string) api.Route {
	return api.Route{At: made(s), Hop: m[s]}
}

// routes tells the routes of these bits.
func (m hops) routes(l []string) []api.Route {
	var out []api.Route
	for _, s := range l {
		out = append(out, m.route(s))
	}
	return out
}

// table is what is right by W5.
func (m hops) table(family int) api.Table {
	return api.Table{W: family, Routes: m.routes(m.keys())}
}

// within tells which of these lie within a prefix.
func within(keys []string, p string) []string {
	return slices.DeleteFunc(slices.Clone(keys), func(s string) bool { return !strings.HasPrefix(s, p) })
}

// over tells those within which a prefix lies, the longest first.
func (m hops) over(p string) []string {
	var l []string
	for n := len(p); n >= 0; n-- {
		if _, ok := m[p[:n]]; ok {
			l = append(l, p[:n])
		}
	}
	return l
}

// roots are where small trees stand: over all addresses, at both ends, in between, and over the edge of a word's halves. Each leaves 5 bits at least.
func roots(family int) []string {
	l := []string{"", "0", "1", fill("", family-5, "0"), fill("", family-5, "1"), fill("", family-8, "0") + "101", "00001010"}
	if family == 128 {
		l = append(l, strings.Repeat("01", 31), strings.Repeat("1", 62), strings.Repeat("0", 61)+"1", strings.Repeat("110", 30))
	}
	return l
}

// nodes is how many nodes the small tree has: its node 1 is the root, the kids of node i are 2i and 2i + 1.
const nodes = 15

// below tells the bits of a node behind the root's.
func below(node int) string {
	return strconv.FormatInt(int64(node), 2)[1:]
}

// ofSet is the nodes of a set as prefixes behind a root, each with a next hop of its own. Bit i is node i + 1.
func ofSet(root string, set int) hops {
	m := hops{}
	for i := range nodes {
		if set>>i&1 == 1 {
			m[root+below(i+1)] = i + 1
		}
	}
	return m
}

// someTables are tables without a pattern: thin ones over all addresses, thick ones in few of them, chains of prefixes within one another; and without any.
func someTables(family int) []hops {
	next := counter()
	l := []hops{{}, {"": 1}, {"": 65535, fill("", family, "0"): 1, fill("", family, "1"): 2}}
	for i := range 120 {
		root := ""
		if i%3 > 0 {
			root = spell(api.Word{Hi: next(), Lo: next()}, int(next()%uint64(family-7)))
		}
		m := hops{}
		for range next() % 60 {
			more := int(next() % 8)
			if i%3 == 2 {
				more = int(next() % uint64(family-len(root)+1))
			}
			m[root+spell(api.Word{Hi: next(), Lo: next()}, more)] = 1 + int(next()%65535)
		}
		l = append(l, m)
	}
	for _, s := range []string{fill("", family, "0"), fill("", family, "1"), spell(api.Word{Hi: next(), Lo: next()}, family)} {
		all, some := hops{}, hops{}
		for n := range family + 1 {
			all[s[:n]] = n + 1
			if next()%3 == 0 {
				some[s[:n]] = 65535 - n
			}
			if n > 0 && next()%3 == 0 {
				some[s[:n-1]+string('0'+'1'-rune(s[n-1]))] = 1000 + n
			}
		}
		l = append(l, all, some)
	}
	return l
}

// places tells prefixes that have to do with a table's: its own, those beside, above and below them, and others.
func places(family int, m hops) []string {
	next := counter()
	seen := map[string]int{"": 1, "0": 1, "1": 1, fill("", family, "0"): 1, fill("", family, "1"): 1}
	for s := range m {
		seen[s]++
		seen[fill(s, family, "0")]++
		seen[fill(s, family, "1")]++
		if len(s) < family {
			seen[s+"0"]++
			seen[s+"1"]++
		}
		if n := len(s) - 1; n >= 0 {
			seen[s[:n]]++
			other := s[:n] + string('0'+'1'-rune(s[n]))
			seen[other]++
			seen[fill(other, family, "0")]++
			seen[fill(other, family, "1")]++
			seen[s[:n/2]]++
		}
	}
	for range 20 {
		seen[spell(api.Word{Hi: next(), Lo: next()}, int(next()%uint64(family+1)))]++
	}
	return slices.Sorted(maps.Keys(seen))
}

// addresses tells those of the places that are as long as an address, and the first and last ones of the others.
func addresses(family int, m hops) []string {
	seen := map[string]int{}
	for _, s := range places(family, m) {
		seen[fill(s, family, "0")]++
		seen[fill(s, family, "1")]++
	}
	return slices.Sorted(maps.Keys(seen))
}

// guarded lays routes into a list with marks ahead of it, and in its spare room; what it answers beside says whether all is as it was.
func guarded(l []api.Route) ([]api.Route, func() bool) {
	const more = 3
	whole := slices.Repeat([]api.Route{mark}, len(l)+2*more)
	copy(whole[more:], l)
	was := slices.Clone(whole)
	return whole[more : more+len(l)], func() bool { return slices.Equal(whole, was) }
}

// overwrite puts marks over all of a list, its spare room too.
func overwrite(l []api.Route) {
	l = l[:cap(l)]
	for i := range l {
		l[i] = mark
	}
}

// at4, at6 read a prefix; word4, word6 an address; route4, route6 a route.
func at4(s string) api.Prefix { return readPrefix(32, s) }
func at6(s string) api.Prefix { return readPrefix(128, s) }

func readPrefix(family int, s string) api.Prefix {
	p, e := prefix.Parse(family, s)
	if e != api.OK {
		panic("no prefix: " + s)
	}
	return p
}

func word4(s string) api.Word { return readWord(32, s) }
func word6(s string) api.Word { return readWord(128, s) }

func readWord(family int, s string) api.Word {
	w, e := addr.Parse(family, s)
	if e != api.OK {
		panic("no address: " + s)
	}
	return w
}

func route4(s string, hop int) api.Route { return api.Route{At: at4(s), Hop: hop} }
func route6(s string, hop int) api.Route { return api.Route{At: at6(s), Hop: hop} }

func TestSamplesAreSound(t *testing.T) {
	if made("00001010") != at4("10.0.0.0/8") || made("0010000000000001") != at6("2001::/16") {
		t.Error("a prefix is not made as it is")
	}
	if spell(word4("10.0.0.1"), 32) != "00001010000000000000000000000001" || ofBits(fill("", 128, "1")) != lastSix {
		t.Error("an address is not spelt as it is")
	}
	if below(1) != "" || below(15) != "111" || below(5) != "01" {
		t.Error("the small tree is not as it is")
	}
	m := hops{"": 1, "0": 2, "01": 3, "1": 4}
	if !slices.Equal(m.keys(), []string{"", "0", "01", "1"}) || !slices.Equal(within(m.keys(), "0"), []string{"0", "01"}) || !slices.Equal(m.over("011"), []string{"01", "0", ""}) {
		t.Error("a table is not as it is known")
	}
	l, asItWas := guarded([]api.Route{{Hop: 1}})
	if !asItWas() {
		t.Error("nothing is changed, but it is told")
	}
	_ = append(l, api.Route{})
	if asItWas() {
		t.Error("spare room is changed, but it is not told")
	}
	for _, family := range families {
		for _, m := range someTables(family) {
			for s, hop := range m {
				if len(s) > family || hop < 1 || hop > 65535 {
					t.Errorf("%s to %d is no route", s, hop)
				}
			}
		}
	}
}
