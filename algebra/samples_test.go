package algebra

import (
	"maps"
	"math"
	"slices"
	"strconv"
	"strings"
	"sync"
	"testing"

	"turnpike/addr"
	"turnpike/api"
	"turnpike/prefix"
)

var (
	families = []int{32, 128}
	// noFamilies are numbers that are no family, those beside one and far off among them.
	noFamilies = []int{math.MinInt, -128, -32, -1, 0, 1, 8, 16, 31, 33, 64, 96, 127, 129, 160, 256, math.MaxInt}
	lastSix    = api.Word{Hi: math.MaxUint64, Lo: math.MaxUint64}
	markRoute  = api.Route{At: api.Prefix{Addr: api.Word{Hi: 0xdead, Lo: 0xbeef}, Len: 77}, Hop: -5}
	markSeg    = api.Seg{First: api.Word{Hi: 0xdead, Lo: 0xbeef}, Last: api.Word{Lo: 7}, Hop: -5}
)

// spell writes the first n bits of a word as signs 0 and 1. What the document says of prefixes and addresses is said of such texts by the library's strings: the tests hold the one against the other.
func spell(w api.Word, n int) string {
	b := make([]byte, n)
	for i := range n {
		half, at := w.Hi, 63-i
		if i >= 64 {
			half, at = w.Lo, 127-i
		}
		b[i] = '0' + byte(half>>at&1)
	}
	return string(b)
}

// ofBits is the word that begins with these bits.
func ofBits(s string) api.Word {
	var w api.Word
	for i := range len(s) {
		if s[i] == '0' {
			continue
		}
		if i < 64 {
			w.Hi |= 1 << (63 - i)
		} else {
			w.Lo |= 1 << (127 - i)
		}
	}
	return w
}

// made is the prefix of these bits.
func made(s string) api.Prefix {
	return api.Prefix{Addr: ofBits(s), Len: len(s)}
}

// fill makes a text as long as an address by more signs of one kind.
func fill(s string, family int, sign string) string {
	return s + strings.Repeat(sign, family-len(s))
}

// beside tells the address behind one, as bits, and ahead of one: its last sign that is from is made to, those behind it the other way round. It tells nothing at the end.
func beside(s, from, to string) string {
	i := strings.LastIndex(s, from)
	if i < 0 {
		return ""
	}
	return s[:i] + to + strings.Repeat(from, len(s)-i-1)
}

func after(s string) string { return beside(s, "0", "1") }
func ahead(s string) string { return beside(s, "1", "0") }

// counter makes numbers without a pattern, always the same ones.
func counter() func() uint64 {
	x := uint64(0x9e3779b97f4a7c15)
	return func() uint64 {
		x ^= x << 13
		x ^= x >> 7
		x ^= x << 17
		return x
	}
}

// hops says of bits to which next hop their prefix leads: a table as the tests know it. The order of such texts is that of prefixes.
type hops map[string]int

// table is what is right by W5.
func (m hops) table(family int) api.Table {
	x := api.Table{W: family}
	for _, s := range slices.Sorted(maps.Keys(m)) {
		x.Routes = append(x.Routes, api.Route{At: made(s), Hop: m[s]})
	}
	return x
}

// next tells the next hop of an address.
func (m hops) next(s string) int {
	for n := len(s); n >= 0; n-- {
		if hop, ok := m[s[:n]]; ok {
			return hop
		}
	}
	return 0
}

// way says where addresses go. What it says of an address holds up to the next one of the starts.
type way struct {
	family int
	starts []string
	next   func(s string) int
}

func (m hops) way(family int) way {
	x := way{family: family, next: m.next}
	for s := range m {
		x.starts = append(x.starts, bounds(family, s)...)
	}
	return x
}

// bounds tells the first address of a prefix, and the one behind its last, if there is one.
func bounds(family int, s string) []string {
	l := []string{fill(s, family, "0")}
	if behind := after(fill(s, family, "1")); behind != "" {
		l = append(l, behind)
	}
	return l
}

func wayOver(a, b way) way {
	return way{a.family, slices.Concat(a.starts, b.starts), func(s string) int {
		if hop := a.next(s); hop != 0 {
			return hop
		}
		return b.next(s)
	}}
}

func wayLess(a, b way) way {
	return way{a.family, slices.Concat(a.starts, b.starts), func(s string) int {
		if b.next(s) != 0 {
			return 0
		}
		return a.next(s)
	}}
}

func wayOnly(a way, p string) way {
	return way{a.family, slices.Concat(a.starts, bounds(a.family, p)), func(s string) int {
		if !strings.HasPrefix(s, p) {
			return 0
		}
		return a.next(s)
	}}
}

// piece is a segment, its ends as bits.
type piece struct {
	first, last string
	hop         int
}

// pieces tells the longest stretches of addresses that go to one next hop.
func (x way) pieces() []piece {
	starts := append(slices.Clone(x.starts), fill("", x.family, "0"))
	slices.Sort(starts)
	starts = slices.Compact(starts)
	var l []piece
	for i, s := range starts {
		last := fill("", x.family, "1")
		if i+1 < len(starts) {
			last = ahead(starts[i+1])
		}
		hop := x.next(s)
		if n := len(l) - 1; n >= 0 && l[n].hop == hop {
			l[n].last = last
			continue
		}
		l = append(l, piece{s, last, hop})
	}
	return l
}

func (x way) segs() []api.Seg {
	var l []api.Seg
	for _, p := range x.pieces() {
		l = append(l, api.Seg{First: ofBits(p.first), Last: ofBits(p.last), Hop: p.hop})
	}
	return l
}

// table is the one that P602 tells of the segments.
func (x way) table() api.Table {
	t := api.Table{W: x.family}
	for _, p := range x.pieces() {
		if p.hop == 0 {
			continue
		}
		for _, s := range parted("", p.first, p.last) {
			t.Routes = append(t.Routes, api.Route{At: made(s), Hop: p.hop})
		}
	}
	return t
}

// parted tells the prefixes of a range from the root of all downwards: one that lies in it whole is told, one that lies in it in part is parted.
func parted(node, first, last string) []string {
	family := len(first)
	low, high := fill(node, family, "0"), fill(node, family, "1")
	switch {
	case high < first || low > last:
		return nil
	case low >= first && high <= last:
		return []string{node}
	}
	return append(parted(node+"0", first, last), parted(node+"1", first, last)...)
}

// roots are where small trees stand: over all addresses, at both ends, in between, and over the edge of a word's halves. Each leaves 2 bits at least.
func roots(family int) []string {
	l := []string{"", "0", "1", fill("", family-2, "0"), fill("", family-2, "1"), fill("", family-5, "0") + "101", "00001010"}
	if family == 128 {
		l = append(l, strings.Repeat("01", 31), strings.Repeat("1", 63), strings.Repeat("0", 62)+"1", strings.Repeat("110", 30))
	}
	return l
}

// smallTrees tells all tables of the first n nodes of a small tree, each of which leads nowhere, to 1 or to 2. Its node 1 is the root, the kids of node i are 2i and 2i + 1.
func smallTrees(root string, n int) []hops {
	l := []hops{{}}
	for node := 1; node <= n; node++ {
		at := root + strconv.FormatInt(int64(node), 2)[1:]
		for _, m := range l {
			for hop := 1; hop <= 2; hop++ {
				more := maps.Clone(m)
				more[at] = hop
				l = append(l, more)
			}
		}
	}
	return l
}

// someTables are tables without a pattern: thin ones over all addresses, thick ones in few of them, chains of prefixes within one another, with many next hops and with few; and the edges.
func someTables(family int) []hops {
	next := counter()
	first, last := fill("", family, "0"), fill("", family, "1")
	l := []hops{{}, {"": 1}, {"": 65535, first: 1, last: 2}, {first: 1}, {last: 1}, {first: 3, last: 3}, {"": 4, first: 4, last: 4}, {"0": 1, "1": 1}, {"0": 1, "1": 2}}
	for i := range 90 {
		root, most := "", 1+next()%3
		if i%3 > 0 {
			root = spell(api.Word{Hi: next(), Lo: next()}, int(next()%uint64(family-7)))
		}
		if i%2 == 0 {
			most = 65535
		}
		m := hops{}
		for range next() % 40 {
			more := int(next() % 8)
			if i%3 == 2 {
				more = int(next() % uint64(family-len(root)+1))
			}
			m[root+spell(api.Word{Hi: next(), Lo: next()}, more)] = 1 + int(next()%most)
		}
		l = append(l, m)
	}
	for _, s := range []string{first, last, spell(api.Word{Hi: next(), Lo: next()}, family)} {
		all, some := hops{}, hops{}
		for n := range family + 1 {
			all[s[:n]] = n + 1
			if next()%3 == 0 {
				some[s[:n]] = 1 + int(next()%2)
			}
			if n > 0 && next()%3 == 0 {
				some[s[:n-1]+string('0'+'1'-rune(s[n-1]))] = 1 + int(next()%2)
			}
		}
		l = append(l, all, some)
	}
	return l
}

// full is just MaxEntries routes of 20 bits, one beside the other, that go to 1 and to 2 by turns. Nobody changes it.
var full = sync.OnceValue(func() []api.Route {
	l := make([]api.Route, api.MaxEntries)
	for i := range l {
		l[i] = api.Route{At: api.Prefix{Addr: api.Word{Hi: uint64(i) << 44}, Len: 20}, Hop: 1 + i%2}
	}
	return l
})

// tooMany has one route more.
var tooMany = sync.OnceValue(func() []api.Route {
	return append(slices.Clone(full()), api.Route{At: made(fill("", 21, "1")), Hop: 3})
})

// fullSegs is the segments of full.
func fullSegs(family int) []api.Seg {
	l := make([]api.Seg, 0, api.MaxEntries)
	for _, r := range full() {
		l = append(l, api.Seg{First: r.At.Addr, Last: prefix.Last(family, r.At), Hop: r.Hop})
	}
	return l
}

// wrongTable is one with its error.
type wrongTable struct {
	x api.Table
	e api.Errno
}

// wrongTables are tables that are not right, each of which has errors behind that which is told, where it can have some.
func wrongTables(family int) []wrongTable {
	right := api.Route{At: made("0"), Hop: 1}
	long := api.Route{At: api.Prefix{Addr: lastSix, Len: family + 1}}
	host := api.Route{At: api.Prefix{Addr: ofBits("01"), Len: 1}}
	hop, none := api.Route{At: made("1"), Hop: 65536}, api.Route{At: made("1")}
	l := []wrongTable{
		{api.Table{W: family, Routes: tooMany()}, api.ErrLimit},
		{api.Table{W: family, Routes: []api.Route{long}}, api.ErrLen},
		{api.Table{W: family, Routes: []api.Route{{At: api.Prefix{Len: -1}, Hop: 1}}}, api.ErrLen},
		{api.Table{W: family, Routes: []api.Route{right, host, long}}, api.ErrHost},
		{api.Table{W: family, Routes: []api.Route{right, hop}}, api.ErrHop},
		{api.Table{W: family, Routes: []api.Route{right, right, none, host}}, api.ErrHop},
		{api.Table{W: family, Routes: []api.Route{right, right}}, api.ErrOrder},
		{api.Table{W: family, Routes: []api.Route{{At: made("1"), Hop: 1}, right}}, api.ErrOrder},
		{api.Table{W: family, Routes: []api.Route{{At: made("00"), Hop: 1}, right}}, api.ErrOrder},
	}
	for _, n := range noFamilies {
		l = append(l, wrongTable{api.Table{W: n}, api.ErrFamily}, wrongTable{api.Table{W: n, Routes: []api.Route{right, long, right}}, api.ErrFamily})
	}
	return l
}

// rightTables are some of the family that a call of two may be handed beside a wrong one.
func rightTables(family int) []api.Table {
	return []api.Table{{W: family}, {W: family, Routes: []api.Route{{Hop: 1}}}, hops{"0": 1, "00001010": 2, "01": 1}.table(family)}
}

// guarded lays a list between marks, those behind it in its spare room; what it answers beside says whether all is as it was.
func guarded[T comparable](l []T, mark T) ([]T, func() bool) {
	const more = 3
	whole := slices.Repeat([]T{mark}, len(l)+2*more)
	copy(whole[more:], l)
	was := slices.Clone(whole)
	return whole[more : more+len(l)], func() bool { return slices.Equal(whole, was) }
}

// overwrite puts marks over all of a list, its spare room too.
func overwrite[T any](l []T, mark T) {
	l = l[:cap(l)]
	for i := range l {
		l[i] = mark
	}
}

// read is the table of a text's words: prefix, next hop, prefix, next hop.
func read(family int, text string) api.Table {
	x := api.Table{W: family}
	words := strings.Fields(text)
	for i := 0; i < len(words); i += 2 {
		hop, err := strconv.Atoi(words[i+1])
		if err != nil {
			panic("no next hop: " + words[i+1])
		}
		x.Routes = append(x.Routes, api.Route{At: readPrefix(family, words[i]), Hop: hop})
	}
	return x
}

func readPrefix(family int, s string) api.Prefix {
	p, e := prefix.Parse(family, s)
	if e != api.OK {
		panic("no prefix: " + s)
	}
	return p
}

func readWord(family int, s string) api.Word {
	w, e := addr.Parse(family, s)
	if e != api.OK {
		panic("no address: " + s)
	}
	return w
}

// readSegs is the segments of a text's words: the first address and the next hop of each.
func readSegs(family int, text string) []api.Seg {
	var l []api.Seg
	words := strings.Fields(text)
	for i := 0; i < len(words); i += 2 {
		hop, err := strconv.Atoi(words[i+1])
		if err != nil {
			panic("no next hop: " + words[i+1])
		}
		s := api.Seg{First: readWord(family, words[i]), Last: ofBits(fill("", family, "1")), Hop: hop}
		if n := len(l) - 1; n >= 0 {
			l[n].Last = ofBits(ahead(spell(s.First, family)))
		}
		l = append(l, s)
	}
	return l
}

func TestSamplesAreSound(t *testing.T) {
	if made("00001010") != readPrefix(32, "10.0.0.0/8") || spell(readWord(32, "10.0.0.1"), 32) != "00001010000000000000000000000001" || ofBits(fill("", 128, "1")) != lastSix {
		t.Error("bits are not as they are")
	}
	if after("0011") != "0100" || ahead("0100") != "0011" || after("11") != "" || ahead("00") != "" || after("00") != "01" {
		t.Error("what is beside an address is not as it is")
	}
	m := hops{"": 1, "0": 2, "01": 1, "0111": 3}
	if m.next("1111") != 1 || m.next("0011") != 2 || m.next("0100") != 1 || m.next("0111") != 3 || (hops{"1": 1}).next("0111") != 0 {
		t.Error("a next hop is not as it is")
	}
	if got := m.way(4).pieces(); !slices.Equal(got, []piece{{"0000", "0011", 2}, {"0100", "0110", 1}, {"0111", "0111", 3}, {"1000", "1111", 1}}) {
		t.Errorf("pieces: %v", got)
	}
	if got := parted("", "0001", "1101"); !slices.Equal(got, []string{"0001", "001", "01", "10", "110"}) {
		t.Errorf("parted: %v", got)
	}
	if n := len(smallTrees("", 3)); n != 27 {
		t.Errorf("%d small trees", n)
	}
	l := readSegs(32, "0.0.0.0 1 10.0.0.0 0")
	if !slices.Equal(l, []api.Seg{{Last: readWord(32, "9.255.255.255"), Hop: 1}, {First: readWord(32, "10.0.0.0"), Last: readWord(32, "255.255.255.255")}}) {
		t.Errorf("segments: %v", l)
	}
	g, asItWas := guarded(l, markSeg)
	if !asItWas() {
		t.Error("nothing is changed, but it is told")
	}
	_ = append(g, api.Seg{})
	if asItWas() {
		t.Error("spare room is changed, but it is not told")
	}
}
