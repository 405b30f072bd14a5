package trie

import (
	"maps"
	"math"
	"slices"
	"strconv"
	"strings"
	"sync"
	"testing"

	"turnpike/addr"
	"turnpike/api"
	"turnpike/prefix"
)

var (
	families = []int{32, 128}
	// noFamilies are numbers that are no family, those beside one and far off among them.
	noFamilies = []int{math.MinInt, -128, -32, -1, 0, 1, 8, 16, 31, 33, 64, 96, 127, 129, 160, 256, math.MaxInt}
	lastSix    = api.Word{Hi: math.MaxUint64, Lo: math.MaxUint64}
	mark       = api.Route{At: api.Prefix{Addr: api.Word{Hi: 0xdead, Lo: 0xbeef}, Len: 77}, Hop: -5}
	// noBits are numbers that are neither 0 nor 1, but some of which end in such bits.
	noBits = []int{math.MinInt, math.MinInt + 1, -1 << 32, -256, -2, -1, 2, 3, 48, 49, 256, 257, 1 << 16, 1 << 32, 1<<32 + 1, math.MaxInt}
)

// spell writes the first n bits of a word as signs 0 and 1. What the document says of prefixes and addresses is said of such texts by the library's strings: the tests hold the one against the other.
func spell(w api.Word, n int) string {
	b := make([]byte, n)
	for i := range n {
		half, at := w.Hi, 63-i
		if i >= 64 {
			half, at = w.Lo, 127-i
		}
		b[i] = '0' + byte(half>>at&1)
	}
	return string(b)
}

// ofBits is the word that begins with these bits.
func ofBits(s string) api.Word {
	var w api.Word
	for i := range len(s) {
		if s[i] == '0' {
			continue
		}
		if i < 64 {
			w.Hi |= 1 << (63 - i)
		} else {
			w.Lo |= 1 << (127 - i)
		}
	}
	return w
}

// made is the prefix of these bits.
func made(s string) api.Prefix {
	return api.Prefix{Addr: ofBits(s), Len: len(s)}
}

// fill makes a text as long as an address by more signs of one kind.
func fill(s string, family int, sign string) string {
	return s + strings.Repeat(sign, family-len(s))
}

// turned is the text with its last sign the other one.
func turned(s string) string {
	end := len(s) - 1
	return s[:end] + string('0'+'1'-rune(s[end]))
}

// counter makes numbers without a pattern, always the same ones.
func counter() func() uint64 {
	x := uint64(0x9e3779b97f4a7c15)
	return func() uint64 {
		x ^= x << 13
		x ^= x >> 7
		x ^= x << 17
		return x
	}
}

// hops says of bits to which next hop their prefix leads: a table as the tests know it. The order of such texts is that of prefixes.
type hops map[string]int

// table is what is right by W5.
func (m hops) table(family int) api.Table {
	x := api.Table{W: family}
	for _, s := range slices.Sorted(maps.Keys(m)) {
		x.Routes = append(x.Routes, api.Route{At: made(s), Hop: m[s]})
	}
	return x
}

// next tells the next hop of an address.
func (m hops) next(s string) int {
	for n := len(s); n >= 0; n-- {
		if hop, ok := m[s[:n]]; ok {
			return hop
		}
	}
	return 0
}

// tree is one as the tests know it: by texts, each told by what the routes say of it alone.
type tree struct {
	hops   hops
	nodes  []string
	number map[string]int
	height map[string]int
	count  map[string]int
}

func (m hops) tree() tree {
	x := tree{hops: m, number: map[string]int{}, height: map[string]int{"": 0}, count: map[string]int{"": 0}}
	for s := range m {
		for n := range len(s) + 1 {
			x.count[s[:n]]++
			x.height[s[:n]] = max(x.height[s[:n]], len(s)-n)
		}
	}
	x.nodes = slices.Sorted(maps.Keys(x.count))
	for n, s := range x.nodes {
		x.number[s] = n
	}
	return x
}

// find tells the number of a text, -1: it is no node's.
func (x tree) find(s string) int {
	if n, ok := x.number[s]; ok {
		return n
	}
	return -1
}

// path tells the numbers of the nodes within which an address lies.
func (x tree) path(s string) []int {
	var l []int
	for n := range len(s) + 1 {
		if k := x.find(s[:n]); k >= 0 {
			l = append(l, k)
		}
	}
	return l
}

// down tells of each node the numbers of those that are so many bits longer within it.
func (x tree) down(bits int) [][]int {
	l := make([][]int, len(x.nodes))
	for n, s := range x.nodes {
		if len(s) >= bits {
			over := x.number[s[:len(s)-bits]]
			l[over] = append(l[over], n)
		}
	}
	return l
}

// places tells bits that have to do with a tree: its nodes, what hangs on them, stands beside them, and others.
func (x tree) places(family int) []string {
	next := counter()
	seen := map[string]int{"0": 1, "1": 1, fill("", family, "0"): 1, fill("", family, "1"): 1}
	for _, s := range x.nodes {
		seen[s]++
		if len(s) < family {
			seen[s+"0"]++
			seen[s+"1"]++
		}
		if len(s) > 0 {
			seen[turned(s)]++
		}
		if _, ok := x.hops[s]; ok {
			seen[fill(s, family, "0")]++
			seen[fill(s, family, "1")]++
		}
	}
	for range 20 {
		seen[spell(api.Word{Hi: next(), Lo: next()}, int(next()%uint64(family+1)))]++
	}
	return slices.Sorted(maps.Keys(seen))
}

// addresses tells the first and the last ones of the places.
func (x tree) addresses(family int) []string {
	seen := map[string]int{}
	for _, s := range x.places(family) {
		seen[fill(s, family, "0")]++
		seen[fill(s, family, "1")]++
	}
	return slices.Sorted(maps.Keys(seen))
}

// noNodes are numbers that are no node's in a tree of so many, some of which end in the bits of one that is.
func noNodes(n int) []int {
	return []int{math.MinInt, -1 << 32, -1 << 31, -n - 1, -n, -2, -1, n, n + 1, 2*n + 1, 1 << 31, 1<<31 + 1, 1 << 32, 1<<32 + 1, math.MaxInt - 1, math.MaxInt}
}

// noAddresses are words that are no addresses of the family: an address with one bit more, and with all.
func noAddresses(family int, s string) []api.Word {
	var l []api.Word
	for n := family; n < 128; n++ {
		l = append(l, ofBits(fill(s, n, "0")+"1"), ofBits(fill(fill(s, n, "0"), 128, "1")))
	}
	return l
}

// roots are where small trees stand: over all addresses, at both ends, in between, and over the edge of a word's halves. Each leaves 6 bits at least.
func roots(family int) []string {
	l := []string{"", "0", "1", fill("", family-6, "0"), fill("", family-6, "1"), fill("", family-9, "0") + "101", "00001010"}
	if family == 128 {
		l = append(l, strings.Repeat("01", 31), strings.Repeat("1", 62), strings.Repeat("0", 61)+"1", strings.Repeat("110", 30))
	}
	return l
}

// smallTrees tells the tables of all sets of n nodes of a small tree: node 1 is the root, the kids of node i are 2i and 2i + 1; behind each bit there stands the gap. Each leads to a next hop of its own.
func smallTrees(root, gap string, n int) []hops {
	var l []hops
	for set := range 1 << n {
		m := hops{}
		for i := range n {
			if set>>i&1 == 0 {
				continue
			}
			at := root
			for _, bit := range strconv.FormatInt(int64(i+1), 2)[1:] {
				at += string(bit) + gap
			}
			m[at] = 65535 - i*i
		}
		l = append(l, m)
	}
	return l
}

// edges are tables at the edges that the document names.
func edges(family int) []hops {
	first, last := fill("", family, "0"), fill("", family, "1")
	return []hops{
		{}, {"": 1}, {"": 65535}, {"0": 1}, {"1": 1}, {"0": 1, "1": 1}, {"0": 1, "1": 2}, {"": 3, "0": 2, "1": 1}, {"": 3, "1": 3},
		{first: 1}, {last: 65535}, {first: 1, last: 2}, {"": 3, first: 1, last: 2}, {turned(first): 9}, {first: 1, turned(first): 2}, {last: 1, turned(last): 2},
		{first[1:]: 4, first: 5}, {last[1:]: 4, last: 4}, {first[1:]: 4, last[1:]: 5, first: 6, last: 7, turned(first): 8, turned(last): 9},
	}
}

// someTables are the edges, and tables without a pattern: thin ones over all addresses, thick ones in few of them, chains of prefixes within one another.
func someTables(family int) []hops {
	next := counter()
	l := edges(family)
	for i := range 60 {
		root := ""
		if i%3 > 0 {
			root = spell(api.Word{Hi: next(), Lo: next()}, int(next()%uint64(family-7)))
		}
		m := hops{}
		for range next() % 40 {
			more := int(next() % 8)
			if i%3 == 2 {
				more = int(next() % uint64(family-len(root)+1))
			}
			m[root+spell(api.Word{Hi: next(), Lo: next()}, more)] = 1 + int(next()%65535)
		}
		l = append(l, m)
	}
	for _, s := range []string{fill("", family, "0"), fill("", family, "1"), spell(api.Word{Hi: next(), Lo: next()}, family)} {
		all, some := hops{}, hops{}
		for n := range family + 1 {
			all[s[:n]] = n + 1
			if next()%3 == 0 {
				some[s[:n]] = 65535 - n
			}
			if n > 0 && next()%3 == 0 {
				some[turned(s[:n])] = 1000 + n
			}
		}
		l = append(l, all, some)
	}
	return l
}

// full is just MaxEntries routes of 20 bits, one beside the other. Nobody changes it.
var full = sync.OnceValue(func() []api.Route {
	l := make([]api.Route, api.MaxEntries)
	for i := range l {
		l[i] = api.Route{At: api.Prefix{Addr: api.Word{Hi: uint64(i) << 44}, Len: 20}, Hop: 1 + i%65535}
	}
	return l
})

// wrongTable is one with its error.
type wrongTable struct {
	x api.Table
	e api.Errno
}

// wrongTables are tables that are not right, each of which has errors behind that which is told, where it can have some.
func wrongTables(family int) []wrongTable {
	right := api.Route{At: made("0"), Hop: 1}
	long := api.Route{At: api.Prefix{Addr: lastSix, Len: family + 1}}
	below := api.Route{At: api.Prefix{Len: -1}, Hop: 1}
	host := api.Route{At: api.Prefix{Addr: ofBits("01"), Len: 1}}
	hop, none, under := api.Route{At: made("1"), Hop: 65536}, api.Route{At: made("1")}, api.Route{At: made("1"), Hop: -1}
	tooMany := append(slices.Clone(full()), api.Route{At: made(fill("", 21, "1")), Hop: 3})
	wrong := slices.Clone(tooMany)
	wrong[0], wrong[1] = long, right
	l := []wrongTable{
		{api.Table{W: family, Routes: tooMany}, api.ErrLimit},
		{api.Table{W: family, Routes: wrong}, api.ErrLimit},
		{api.Table{W: 64, Routes: wrong}, api.ErrFamily},
	}
	for _, x := range []struct {
		l []api.Route
		e api.Errno
	}{
		{[]api.Route{long}, api.ErrLen},
		{[]api.Route{below}, api.ErrLen},
		{[]api.Route{right, right, long, host}, api.ErrLen},
		{[]api.Route{host}, api.ErrHost},
		{[]api.Route{right, host, long}, api.ErrHost},
		{[]api.Route{right, hop}, api.ErrHop},
		{[]api.Route{right, none}, api.ErrHop},
		{[]api.Route{under}, api.ErrHop},
		{[]api.Route{right, right, none, host}, api.ErrHop},
		{[]api.Route{right, right}, api.ErrOrder},
		{[]api.Route{{At: made("1"), Hop: 1}, right}, api.ErrOrder},
		{[]api.Route{{At: made("00"), Hop: 1}, right}, api.ErrOrder},
		{[]api.Route{right, {At: made("1"), Hop: 1}, {At: made("01"), Hop: 1}}, api.ErrOrder},
	} {
		l = append(l, wrongTable{api.Table{W: family, Routes: x.l}, x.e})
	}
	for _, n := range noFamilies {
		l = append(l, wrongTable{api.Table{W: n}, api.ErrFamily}, wrongTable{api.Table{W: n, Routes: []api.Route{right, long, right}}, api.ErrFamily})
	}
	return l
}

// guarded lays routes into a list with marks ahead of it, and in its spare room; what it answers beside says whether all is as it was.
func guarded(l []api.Route) ([]api.Route, func() bool) {
	const more = 3
	whole := slices.Repeat([]api.Route{mark}, len(l)+2*more)
	copy(whole[more:], l)
	was := slices.Clone(whole)
	return whole[more : more+len(l)], func() bool { return slices.Equal(whole, was) }
}

// overwrite puts marks over all of a list, its spare room too.
func overwrite(l []api.Route) {
	l = l[:cap(l)]
	for i := range l {
		l[i] = mark
	}
}

// grown is New of a right table.
func grown(t *testing.T, x api.Table) *Trie {
	t.Helper()
	tree, e := New(x)
	if e != api.OK || tree == nil {
		t.Fatalf("P801: New(%v): %v", x, e)
	}
	return tree
}

// read is the table of a text's words: prefix, next hop, prefix, next hop.
func read(family int, text string) api.Table {
	x := api.Table{W: family}
	words := strings.Fields(text)
	for i := 0; i < len(words); i += 2 {
		hop, err := strconv.Atoi(words[i+1])
		if err != nil {
			panic("no next hop: " + words[i+1])
		}
		x.Routes = append(x.Routes, api.Route{At: readPrefix(family, words[i]), Hop: hop})
	}
	return x
}

func readPrefix(family int, s string) api.Prefix {
	p, e := prefix.Parse(family, s)
	if e != api.OK {
		panic("no prefix: " + s)
	}
	return p
}

func readWord(family int, s string) api.Word {
	w, e := addr.Parse(family, s)
	if e != api.OK {
		panic("no address: " + s)
	}
	return w
}

func TestSamplesAreSound(t *testing.T) {
	if made("00001010") != readPrefix(32, "10.0.0.0/8") || spell(readWord(32, "10.0.0.1"), 32) != "00001010000000000000000000000001" || ofBits(fill("", 128, "1")) != lastSix {
		t.Error("bits are not as they are")
	}
	if turned("010") != "011" || turned("1") != "0" || fill("01", 4, "1") != "0111" {
		t.Error("texts are not as they are")
	}
	m := hops{"1": 1, "11": 2, "00": 3}
	x := m.tree()
	if !slices.Equal(x.nodes, []string{"", "0", "00", "1", "11"}) || x.find("11") != 4 || x.find("01") != -1 || x.height[""] != 2 || x.height["1"] != 1 || x.height["11"] != 0 || x.count["1"] != 2 || x.count[""] != 3 {
		t.Errorf("a tree is not as it is: %v", x)
	}
	if !slices.Equal(x.path("1011"), []int{0, 3}) || !slices.Equal(x.down(2)[0], []int{2, 4}) || len(x.down(1)[4]) != 0 || !slices.Equal(x.down(0)[4], []int{4}) {
		t.Errorf("a tree is not gone over as it is: %v", x)
	}
	if m.next("1011") != 1 || m.next("1111") != 2 || m.next("0100") != 0 || m.next("0011") != 3 {
		t.Error("a next hop is not as it is")
	}
	if x := (hops{}).tree(); !slices.Equal(x.nodes, []string{""}) || x.count[""] != 0 {
		t.Errorf("the tree of no routes: %v", x)
	}
	if l := smallTrees("1", "01", 4); len(l) != 16 || len(l[15]) != 4 || l[15]["1"] != 65535 || l[8]["1001001"] == 0 {
		t.Errorf("small trees: %v", l)
	}
	if l := noAddresses(32, fill("", 32, "1")); len(l) != 192 || l[0] != (api.Word{Hi: 0xffffffff80000000}) || l[190] != (api.Word{Hi: 0xffffffff00000000, Lo: 1}) {
		t.Errorf("no addresses: %v", l)
	}
	g, asItWas := guarded(m.table(32).Routes)
	if !asItWas() {
		t.Error("nothing is changed, but it is told")
	}
	_ = append(g, api.Route{})
	if asItWas() {
		t.Error("spare room is changed, but it is not told")
	}
	for _, family := range families {
		for _, m := range someTables(family) {
			for s, hop := range m {
				if len(s) > family || hop < 1 || hop > 65535 {
					t.Errorf("%s to %d is no route", s, hop)
				}
			}
		}
	}
}
