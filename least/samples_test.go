package least

import (
	"maps"
	"math"
	"slices"
	"strconv"
	"strings"
	"sync"
	"testing"

	"turnpike/api"
	"turnpike/prefix"
)

var (
	families = []int{32, 128}
	// noFamilies are numbers that are no family, those beside one and far off among them.
	noFamilies = []int{math.MinInt, -128, -32, -1, 0, 1, 8, 16, 31, 33, 64, 96, 127, 129, 160, 256, math.MaxInt}
	lastSix    = api.Word{Hi: math.MaxUint64, Lo: math.MaxUint64}
	markRoute  = api.Route{At: api.Prefix{Addr: api.Word{Hi: 0xdead, Lo: 0xbeef}, Len: 77}, Hop: -5}
)

// spell writes the first n bits of a word as signs 0 and 1. What the document says of prefixes and addresses is said of such texts by the library's strings: the tests hold the one against the other.
func spell(w api.Word, n int) string {
	b := make([]byte, n)
	for i := range n {
		half, at := w.Hi, 63-i
		if i >= 64 {
			half, at = w.Lo, 127-i
		}
		b[i] = '0' + byte(half>>at&1)
	}
	return string(b)
}

// ofBits is the word that begins with these bits.
func ofBits(s string) api.Word {
	var w api.Word
	for i := range len(s) {
		if s[i] == '0' {
			continue
		}
		if i < 64 {
			w.Hi |= 1 << (63 - i)
		} else {
			w.Lo |= 1 << (127 - i)
		}
	}
	return w
}

// made is the prefix of these bits.
func made(s string) api.Prefix {
	return api.Prefix{Addr: ofBits(s), Len: len(s)}
}

// fill makes a text as long as an address by more signs of one kind.
func fill(s string, family int, sign string) string {
	return s + strings.Repeat(sign, family-len(s))
}

// beside tells the address behind one, as bits, and ahead of one: its last sign that is from is made to, those behind it the other way round. It tells nothing at the end.
func beside(s, from, to string) string {
	i := strings.LastIndex(s, from)
	if i < 0 {
		return ""
	}
	return s[:i] + to + strings.Repeat(from, len(s)-i-1)
}

func after(s string) string { return beside(s, "0", "1") }
func ahead(s string) string { return beside(s, "1", "0") }

// counter makes numbers without a pattern, always the same ones.
func counter() func() uint64 {
	x := uint64(0x9e3779b97f4a7c15)
	return func() uint64 {
		x ^= x << 13
		x ^= x >> 7
		x ^= x << 17
		return x
	}
}

// hops says of bits to which next hop their prefix leads: a table as the tests know it. The order of such texts is that of prefixes.
type hops map[string]int

// table is what is right by W5.
func (m hops) table(family int) api.Table {
	x := api.Table{W: family}
	for _, s := range slices.Sorted(maps.Keys(m)) {
		x.Routes = append(x.Routes, api.Route{At: made(s), Hop: m[s]})
	}
	return x
}

// next tells the next hop of an address.
func (m hops) next(s string) int {
	for n := len(s); n >= 0; n-- {
		if hop, ok := m[s[:n]]; ok {
			return hop
		}
	}
	return 0
}

// without is all of it but one.
func (m hops) without(s string) hops {
	m = maps.Clone(m)
	delete(m, s)
	return m
}

// and is all of both.
func (m hops) and(more hops) hops {
	m = maps.Clone(m)
	maps.Copy(m, more)
	return m
}

// piece is a stretch of addresses, its ends as bits.
type piece struct {
	first, last string
	hop         int
}

// pieces tells the longest stretches of addresses that go to one next hop: two tables lead alike just where these are the same.
func (m hops) pieces(family int) []piece {
	starts := []string{fill("", family, "0")}
	for s := range m {
		starts = append(starts, fill(s, family, "0"))
		if behind := after(fill(s, family, "1")); behind != "" {
			starts = append(starts, behind)
		}
	}
	slices.Sort(starts)
	starts = slices.Compact(starts)
	var l []piece
	for i, s := range starts {
		last := fill("", family, "1")
		if i+1 < len(starts) {
			last = ahead(starts[i+1])
		}
		hop := m.next(s)
		if n := len(l) - 1; n >= 0 && l[n].hop == hop {
			l[n].last = last
			continue
		}
		l = append(l, piece{s, last, hop})
	}
	return l
}

// waste tells by what P702 says: each route is left out by itself.
func (m hops) waste(family int) []api.Route {
	var l []api.Route
	pieces := m.pieces(family)
	for _, r := range m.table(family).Routes {
		if slices.Equal(m.without(spell(r.At.Addr, r.At.Len)).pieces(family), pieces) {
			l = append(l, r)
		}
	}
	return l
}

// never is more routes than any table has; foreign stands for every next hop that nothing in a node is led to: inherited they are all alike.
const (
	never   = 1 << 40
	foreign = -1
)

// node is a prefix's, down to where no longer one is told.
type node struct {
	hop       int
	low, high *node
	told      []int // the next hops that routes within it and its own hop lead to
	known     map[int]int
}

func (m hops) node(at string, hop int, within []string) *node {
	if own, ok := m[at]; ok {
		hop = own
	}
	x := &node{hop: hop, told: []int{hop}, known: map[int]int{}}
	var longer []string
	for _, s := range within {
		if len(s) > len(at) && strings.HasPrefix(s, at) {
			longer = append(longer, s)
			x.told = append(x.told, m[s])
		}
	}
	slices.Sort(x.told)
	x.told = slices.Compact(x.told)
	if len(longer) > 0 {
		x.low, x.high = m.node(at+"0", hop, longer), m.node(at+"1", hop, longer)
	}
	return x
}

// needs tells how many routes lead alike at least. All are tried: a node with kids takes none, or one to each next hop that is told in it.
func (x *node) needs(inherits int) int {
	switch {
	case x.low == nil && x.hop == inherits:
		return 0
	case x.low == nil && x.hop == 0:
		return never
	case x.low == nil:
		return 1
	}
	if inherits != 0 && !slices.Contains(x.told, inherits) {
		inherits = foreign
	}
	if n, ok := x.known[inherits]; ok {
		return n
	}
	n := x.low.needs(inherits) + x.high.needs(inherits)
	for _, hop := range x.told {
		if hop != 0 {
			n = min(n, 1+x.low.needs(hop)+x.high.needs(hop))
		}
	}
	x.known[inherits] = n
	return n
}

func (m hops) needs() int {
	return m.node("", 0, slices.Collect(maps.Keys(m))).needs(0)
}

// roots are where small trees stand: over all addresses, at both ends, in between, and over the edge of a word's halves. Each leaves 2 bits at least.
func roots(family int) []string {
	l := []string{"", "0", "1", fill("", family-2, "0"), fill("", family-2, "1"), fill("", family-5, "0") + "101", "00001010"}
	if family == 128 {
		l = append(l, strings.Repeat("01", 31), strings.Repeat("1", 63), strings.Repeat("0", 62)+"1", strings.Repeat("110", 30))
	}
	return l
}

// nodes tells the first n nodes of a small tree: node 1 is the root, the kids of node i are 2i and 2i + 1. Behind each bit there stands the gap.
func nodes(root, gap string, n int) []string {
	var l []string
	for i := 1; i <= n; i++ {
		at := root
		for _, bit := range strconv.FormatInt(int64(i), 2)[1:] {
			at += string(bit) + gap
		}
		l = append(l, at)
	}
	return l
}

// smallTrees tells all tables of such nodes, each of which leads nowhere, or to a next hop from 1 to most.
func smallTrees(root, gap string, n, most int) []hops {
	l := []hops{{}}
	for _, at := range nodes(root, gap, n) {
		for _, m := range l {
			for hop := 1; hop <= most; hop++ {
				more := maps.Clone(m)
				more[at] = hop
				l = append(l, more)
			}
		}
	}
	return l
}

// leaves tells where the leaves of a small tree go, a sign each.
func (m hops) leaves(root string, height int) string {
	l := []string{root}
	for range height {
		var longer []string
		for _, s := range l {
			longer = append(longer, s+"0", s+"1")
		}
		l = longer
	}
	b := make([]byte, len(l))
	for i, s := range l {
		b[i] = '0' + byte(m.next(s))
	}
	return string(b)
}

// fewestOfAll tells of each text of leaves how many routes the least of all tables of a small tree has that leads so, with what the tree inherits: each table of the one half beside each of the other one, with each route of the root and with none.
func fewestOfAll(height, most, inherits int) map[string]int {
	l := map[string]int{}
	for own := range most + 1 {
		hop, routes := inherits, 0
		if own > 0 {
			hop, routes = own, 1
		}
		halves := map[string]int{"": 0}
		if height > 0 {
			halves = fewestOfAll(height-1, most, hop)
		}
		for low, n := range halves {
			for high, k := range halves {
				leaves := low + high
				if height == 0 {
					leaves = strconv.Itoa(hop)
				}
				if old, ok := l[leaves]; !ok || routes+n+k < old {
					l[leaves] = routes + n + k
				}
			}
		}
	}
	return l
}

// someTables are tables without a pattern: thin ones over all addresses, thick ones in few of them, chains of prefixes within one another, with many next hops and with few; and the edges.
func someTables(family int) []hops {
	next := counter()
	first, last := fill("", family, "0"), fill("", family, "1")
	l := []hops{{}, {"": 1}, {"": 65535, first: 1, last: 2}, {first: 1}, {last: 1}, {first: 3, last: 3}, {"": 4, first: 4, last: 4}, {"0": 1, "1": 1}, {"0": 1, "1": 2}}
	for i := range 90 {
		root, most := "", 1+next()%3
		if i%3 > 0 {
			root = spell(api.Word{Hi: next(), Lo: next()}, int(next()%uint64(family-7)))
		}
		if i%2 == 0 {
			most = 65535
		}
		m := hops{}
		for range next() % 40 {
			more := int(next() % 8)
			if i%3 == 2 {
				more = int(next() % uint64(family-len(root)+1))
			}
			m[root+spell(api.Word{Hi: next(), Lo: next()}, more)] = 1 + int(next()%most)
		}
		l = append(l, m)
	}
	for _, s := range []string{first, last, spell(api.Word{Hi: next(), Lo: next()}, family)} {
		all, some := hops{}, hops{}
		for n := range family + 1 {
			all[s[:n]] = n + 1
			if next()%3 == 0 {
				some[s[:n]] = 1 + int(next()%2)
			}
			if n > 0 && next()%3 == 0 {
				some[s[:n-1]+string('0'+'1'-rune(s[n-1]))] = 1 + int(next()%2)
			}
		}
		l = append(l, all, some)
	}
	return l
}

// full is just MaxEntries routes of 20 bits, one beside the other, that go to 1 and to 2 by turns. Nobody changes it.
var full = sync.OnceValue(func() []api.Route {
	l := make([]api.Route, api.MaxEntries)
	for i := range l {
		l[i] = api.Route{At: api.Prefix{Addr: api.Word{Hi: uint64(i) << 44}, Len: 20}, Hop: 1 + i%2}
	}
	return l
})

// tooMany has one route more.
var tooMany = sync.OnceValue(func() []api.Route {
	return append(slices.Clone(full()), api.Route{At: made(fill("", 21, "1")), Hop: 3})
})

// wrongTable is one with its error.
type wrongTable struct {
	x api.Table
	e api.Errno
}

// wrongTables are tables that are not right, each of which has errors behind that which is told, where it can have some.
func wrongTables(family int) []wrongTable {
	right := api.Route{At: made("0"), Hop: 1}
	long := api.Route{At: api.Prefix{Addr: lastSix, Len: family + 1}}
	host := api.Route{At: api.Prefix{Addr: ofBits("01"), Len: 1}}
	hop, none := api.Route{At: made("1"), Hop: 65536}, api.Route{At: made("1")}
	l := []wrongTable{
		{api.Table{W: family, Routes: tooMany()}, api.ErrLimit},
		{api.Table{W: family, Routes: []api.Route{long}}, api.ErrLen},
		{api.Table{W: family, Routes: []api.Route{{At: api.Prefix{Len: -1}, Hop: 1}}}, api.ErrLen},
		{api.Table{W: family, Routes: []api.Route{right, host, long}}, api.ErrHost},
		{api.Table{W: family, Routes: []api.Route{right, hop}}, api.ErrHop},
		{api.Table{W: family, Routes: []api.Route{right, right, none, host}}, api.ErrHop},
		{api.Table{W: family, Routes: []api.Route{right, right}}, api.ErrOrder},
		{api.Table{W: family, Routes: []api.Route{{At: made("1"), Hop: 1}, right}}, api.ErrOrder},
		{api.Table{W: family, Routes: []api.Route{{At: made("00"), Hop: 1}, right}}, api.ErrOrder},
	}
	for _, n := range noFamilies {
		l = append(l, wrongTable{api.Table{W: n}, api.ErrFamily}, wrongTable{api.Table{W: n, Routes: []api.Route{right, long, right}}, api.ErrFamily})
	}
	return l
}

// guarded lays a list between marks, those behind it in its spare room; what it answers beside says whether all is as it was.
func guarded[T comparable](l []T, mark T) ([]T, func() bool) {
	const more = 3
	whole := slices.Repeat([]T{mark}, len(l)+2*more)
	copy(whole[more:], l)
	was := slices.Clone(whole)
	return whole[more : more+len(l)], func() bool { return slices.Equal(whole, was) }
}

// overwrite puts marks over all of a list, its spare room too.
func overwrite[T any](l []T, mark T) {
	l = l[:cap(l)]
	for i := range l {
		l[i] = mark
	}
}

// read is the table of a text's words: prefix, next hop, prefix, next hop.
func read(family int, text string) api.Table {
	x := api.Table{W: family}
	words := strings.Fields(text)
	for i := 0; i < len(words); i += 2 {
		hop, err := strconv.Atoi(words[i+1])
		if err != nil {
			panic("no next hop: " + words[i+1])
		}
		x.Routes = append(x.Routes, api.Route{At: readPrefix(family, words[i]), Hop: hop})
	}
	return x
}

func readPrefix(family int, s string) api.Prefix {
	p, e := prefix.Parse(family, s)
	if e != api.OK {
		panic("no prefix: " + s)
	}
	return p
}

// brief is the head of a table, or of a list, for a test that tells what failed.
func brief(l []api.Route) []api.Route {
	return l[:min(len(l), 40)]
}

// asHops reads a table that is right; of another one it says no.
func asHops(x api.Table, family int) (hops, bool) {
	m := hops{}
	ok := x.W == family
	last := ""
	for i, r := range x.Routes {
		if r.At.Len < 0 || r.At.Len > family || r.Hop < 1 || r.Hop > 65535 {
			return nil, false
		}
		s := spell(r.At.Addr, r.At.Len)
		ok = ok && made(s) == r.At && (i == 0 || last < s)
		m[s], last = r.Hop, s
	}
	return m, ok
}

func TestSamplesAreSound(t *testing.T) {
	if made("00001010") != readPrefix(32, "10.0.0.0/8") || spell(readPrefix(32, "10.0.0.1/32").Addr, 32) != "00001010000000000000000000000001" || ofBits(fill("", 128, "1")) != lastSix {
		t.Error("bits are not as they are")
	}
	if after("0011") != "0100" || ahead("0100") != "0011" || after("11") != "" || ahead("00") != "" || after("00") != "01" {
		t.Error("what is beside an address is not as it is")
	}
	m := hops{"": 1, "0": 2, "01": 1, "0111": 3}
	if m.next("1111") != 1 || m.next("0011") != 2 || m.next("0100") != 1 || m.next("0111") != 3 || (hops{"1": 1}).next("0111") != 0 {
		t.Error("a next hop is not as it is")
	}
	if got := m.pieces(4); !slices.Equal(got, []piece{{"0000", "0011", 2}, {"0100", "0110", 1}, {"0111", "0111", 3}, {"1000", "1111", 1}}) {
		t.Errorf("pieces: %v", got)
	}
	if m.leaves("", 2) != "2111" || m.leaves("01", 2) != "1113" || (hops{"00": 5}).leaves("0", 1) != "50" {
		t.Error("leaves are not as they are")
	}
	if got := (hops{"": 1, "00": 1, "1": 2, "10": 3, "11": 4}).waste(4); !slices.Equal(got, []api.Route{{At: made("00"), Hop: 1}, {At: made("1"), Hop: 2}}) {
		t.Errorf("waste: %v", got)
	}
	if n := len(smallTrees("", "", 3, 2)); n != 27 {
		t.Errorf("%d small trees", n)
	}
	if l := smallTrees("1", "01", 4, 1); l[len(l)-1].table(32).Routes[3].At != made("1101") || l[len(l)-1]["1001001"] != 1 {
		t.Errorf("a stretched tree: %v", l[len(l)-1])
	}
	if x, ok := asHops(m.table(32), 32); !ok || !maps.Equal(x, m) {
		t.Errorf("a table is not read: %v", x)
	}
	for _, x := range wrongTables(32) {
		if _, ok := asHops(x.x, 32); ok && x.e != api.ErrLimit {
			t.Errorf("a wrong table is read: %v", x)
		}
	}
	g, asItWas := guarded(m.table(32).Routes, markRoute)
	if !asItWas() {
		t.Error("nothing is changed, but it is told")
	}
	_ = append(g, api.Route{})
	if asItWas() {
		t.Error("spare room is changed, but it is not told")
	}
}

// TestSamplesKnowTheFewest holds the two ways of telling them against going through all tables of a small tree.
func TestSamplesKnowTheFewest(t *testing.T) {
	want := map[string]int{}
	trees := smallTrees("", "", 7, 3)
	for _, m := range trees {
		leaves := m.leaves("", 2)
		if n, ok := want[leaves]; !ok || len(m) < n {
			want[leaves] = len(m)
		}
	}
	if got := fewestOfAll(2, 3, 0); !maps.Equal(got, want) {
		t.Errorf("fewest of all: %v, want %v", got, want)
	}
	for _, m := range trees {
		for _, root := range []string{"", "101"} {
			stands := hops{}
			for s, hop := range m {
				stands[root+s] = hop
			}
			if n := stands.needs(); n != want[m.leaves("", 2)] {
				t.Fatalf("%v needs %d, not %d", stands, want[m.leaves("", 2)], n)
			}
		}
	}
}
