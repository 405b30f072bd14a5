package mtrie

import (
	"maps"
	"math"
	"math/big"
	"slices"
	"strconv"
	"strings"
	"sync"
	"testing"

	"turnpike/api"
	"turnpike/prefix"
)

var (
	families = []int{32, 128}
	// noFamilies are numbers that are no family, those beside one and far off among them.
	noFamilies = []int{math.MinInt, -128, -32, -1, 0, 1, 8, 16, 31, 33, 64, 96, 127, 129, 160, 256, math.MaxInt}
	// noBits are numbers that no node's bits may be, some of which end in the bits of one that may.
	noBits     = []int{math.MinInt, math.MinInt + 1, -1 << 32, -256, -128, -32, -2, -1, 129, 130, 255, 256, 257, 1<<16 + 1, 1<<32 + 1, math.MaxInt - 1, math.MaxInt}
	lastSix    = api.Word{Hi: math.MaxUint64, Lo: math.MaxUint64}
	mark       = api.Route{At: api.Prefix{Addr: api.Word{Hi: 0xdead, Lo: 0xbeef}, Len: 77}, Hop: -5}
	markStride = api.Stride{At: api.Prefix{Addr: api.Word{Hi: 0xdead, Lo: 0xbeef}, Len: 77}, Bits: -5}
	markRun    = api.Run{From: api.Word{Hi: 0xdead, Lo: 0xbeef}, Kid: true, N: -5}
	markNode   = api.Node{Bits: -5}
)

// spell writes the first n bits of a word as signs 0 and 1. What the document says of prefixes, slots and nodes is said of such texts by the library's strings: the tests hold the one against the other.
func spell(w api.Word, n int) string {
	b := make([]byte, n)
	for i := range n {
		half, at := w.Hi, 63-i
		if i >= 64 {
			half, at = w.Lo, 127-i
		}
		b[i] = '0' + byte(half>>at&1)
	}
	return string(b)
}

// ofBits is the word that begins with these bits.
func ofBits(s string) api.Word {
	var w api.Word
	for i := range len(s) {
		if s[i] == '0' {
			continue
		}
		if i < 64 {
			w.Hi |= 1 << (63 - i)
		} else {
			w.Lo |= 1 << (127 - i)
		}
	}
	return w
}

// slotOf is the number that these bits are.
func slotOf(s string) api.Word {
	return ofBits(strings.Repeat("0", 128-len(s)) + s)
}

// made is the prefix of these bits.
func made(s string) api.Prefix {
	return api.Prefix{Addr: ofBits(s), Len: len(s)}
}

// fill makes a text as long as an address by more signs of one kind.
func fill(s string, family int, sign string) string {
	return s + strings.Repeat(sign, family-len(s))
}

// turned is the text with its last sign the other one.
func turned(s string) string {
	end := len(s) - 1
	return s[:end] + string('0'+'1'-rune(s[end]))
}

// behind is the text of the next number; false behind the last one. ahead is that of the one ahead.
func behind(s string) (string, bool) {
	end := strings.LastIndexByte(s, '0')
	if end < 0 {
		return "", false
	}
	return s[:end] + "1" + strings.Repeat("0", len(s)-end-1), true
}

func ahead(s string) (string, bool) {
	end := strings.LastIndexByte(s, '1')
	if end < 0 {
		return "", false
	}
	return s[:end] + "0" + strings.Repeat("1", len(s)-end-1), true
}

// counter makes numbers without a pattern, always the same ones.
func counter() func() uint64 {
	x := uint64(0x9e3779b97f4a7c15)
	return func() uint64 {
		x ^= x << 13
		x ^= x >> 7
		x ^= x << 17
		return x
	}
}

// set is prefixes as texts, with their next hops. The order of such texts is that of prefixes.
type set map[string]int

func setOf(l ...string) set {
	m := set{}
	for i, s := range l {
		m[s] = 1 + i
	}
	return m
}

// table is the one of these routes that is right by W5.
func (m set) table(family int) api.Table {
	x := api.Table{W: family}
	for _, s := range slices.Sorted(maps.Keys(m)) {
		x.Routes = append(x.Routes, api.Route{At: made(s), Hop: m[s]})
	}
	return x
}

// hop is that of the longest prefix within which a text lies; 0, if there is none.
func (m set) hop(s string) int {
	for n := len(s); n >= 0; n-- {
		if h, ok := m[s[:n]]; ok {
			return h
		}
	}
	return 0
}

// tree is one as the tests know it, by W7's words.
type tree struct {
	height map[string]int
	below  map[string]map[int][]string // by an open node and a number of bits: the open nodes that are so many bits longer, in order
}

func (m set) tree() tree {
	x := tree{height: map[string]int{"": 0}, below: map[string]map[int][]string{}}
	for s := range m {
		for n := range len(s) + 1 {
			x.height[s[:n]] = max(x.height[s[:n]], len(s)-n)
		}
	}
	for _, s := range slices.Sorted(maps.Keys(x.height)) {
		if !x.open(s) {
			continue
		}
		x.below[s] = map[int][]string{}
		for n := range len(s) {
			l := x.below[s[:n]]
			l[len(s)-n] = append(l[len(s)-n], s)
		}
	}
	return x
}

func (x tree) open(s string) bool {
	return x.height[s] > 0
}

// plan is one as the tests know it: which node takes how many bits.
type plan map[string]int

// strides are those of a plan, in order.
func (p plan) strides() []api.Stride {
	var l []api.Stride
	for _, s := range slices.Sorted(maps.Keys(p)) {
		l = append(l, api.Stride{At: made(s), Bits: p[s]})
	}
	return l
}

// planOf reads a list as a plan; false, if it has prefixes out of order, or that are not right.
func planOf(family int, l []api.Stride) (plan, bool) {
	p := plan{}
	for i, x := range l {
		if x.At.Len < 0 || x.At.Len > family {
			return nil, false
		}
		s := spell(x.At.Addr, x.At.Len)
		if made(s) != x.At || i > 0 && s <= spell(l[i-1].At.Addr, l[i-1].At.Len) {
			return nil, false
		}
		p[s] = x.Bits
	}
	return p, true
}

// cost is the sum of 2^s.
func (p plan) cost() *big.Int {
	n := new(big.Int)
	for _, bits := range p {
		n.Add(n, power(bits))
	}
	return n
}

// power is 2 to so many bits.
func power(bits int) *big.Int {
	return new(big.Int).Lsh(big.NewInt(1), uint(bits))
}

// depth is how many nodes a path meets at most: those within which one of them lies, itself among them.
func (p plan) depth() int {
	most := 0
	for s := range p {
		met := 0
		for n := range len(s) + 1 {
			if _, ok := p[s[:n]]; ok {
				met++
			}
		}
		most = max(most, met)
	}
	return most
}

// isPlan tells by W8's words whether this is a plan of the tree.
func (x tree) isPlan(p plan) bool {
	needed := plan{}
	todo := []string{""}
	for len(todo) > 0 {
		s := todo[0]
		todo = todo[1:]
		if !x.open(s) {
			continue
		}
		bits, ok := p[s]
		if !ok || bits < 1 || bits > x.height[s] {
			return false
		}
		needed[s] = bits
		todo = append(todo, x.below[s][bits]...)
	}
	return maps.Equal(needed, p)
}

// grown is the plan in which each node takes the bits that are told of it.
func (x tree) grown(takes func(s string) int) plan {
	p := plan{}
	var grow func(s string)
	grow = func(s string) {
		p[s] = takes(s)
		for _, m := range x.below[s][p[s]] {
			grow(m)
		}
	}
	if x.open("") {
		grow("")
	}
	return p
}

// even is the plan in which each node takes so many bits, or its height.
func (x tree) even(bits int) plan {
	return x.grown(func(s string) int { return min(bits, x.height[s]) })
}

// somePlans are plans of a tree: even ones, all bits at once, and some without a pattern.
func (x tree) somePlans(next func() uint64) []plan {
	var l []plan
	for _, bits := range []int{1, 2, 3, 5, 8, 31, 64, 128} {
		l = append(l, x.even(bits))
	}
	for range 3 {
		l = append(l, x.grown(func(s string) int { return 1 + int(next()%uint64(x.height[s])) }))
	}
	l = append(l, x.grown(func(s string) int { return 1 + int(next()%uint64(min(4, x.height[s]))) }))
	return l
}

// plans are all of a tree.
func (x tree) plans() []plan {
	if !x.open("") {
		return []plan{{}}
	}
	return x.plansAt("")
}

// plansAt are all from an open node on.
func (x tree) plansAt(s string) []plan {
	var l []plan
	for bits := 1; bits <= x.height[s]; bits++ {
		some := []plan{{s: bits}}
		for _, m := range x.below[s][bits] {
			var more []plan
			for _, a := range some {
				for _, b := range x.plansAt(m) {
					both := maps.Clone(a)
					maps.Copy(both, b)
					more = append(more, both)
				}
			}
			some = more
		}
		l = append(l, some...)
	}
	return l
}

// built is what P1101 says of Build by a plan of these routes.
func (m set) built(p plan) []api.Node {
	if len(p) == 0 {
		return []api.Node{{Runs: []api.Run{{N: m[""]}}}}
	}
	places := slices.Sorted(maps.Keys(p))
	number := map[string]int{}
	for i, s := range places {
		number[s] = i
	}
	var l []api.Node
	for _, s := range places {
		n := api.Node{Bits: p[s]}
		for _, v := range m.marked(p, s) {
			r := api.Run{From: slotOf(v), N: m.hop(s + v)}
			if kid, ok := number[s+v]; ok {
				r.Kid, r.N = true, kid
			}
			if end := len(n.Runs) - 1; end < 0 || n.Runs[end].Kid != r.Kid || n.Runs[end].N != r.N {
				n.Runs = append(n.Runs, r)
			}
		}
		l = append(l, n)
	}
	return l
}

// marked tells slots of the node at s as texts, in order: all, if these are few; else those where a prefix begins, and those behind one.
func (m set) marked(p plan, s string) []string {
	if p[s] > 7 {
		return m.edgesWithin(p, s)
	}
	var l []string
	v, ok := strings.Repeat("0", p[s]), true
	for ok {
		l = append(l, v)
		v, ok = behind(v)
	}
	return l
}

func (m set) edgesWithin(p plan, s string) []string {
	bits := p[s]
	l := []string{strings.Repeat("0", bits)}
	mark := func(at string) {
		if len(at) <= len(s) || len(at) > len(s)+bits || !strings.HasPrefix(at, s) {
			return
		}
		v := at[len(s):]
		l = append(l, fill(v, bits, "0"))
		if end, ok := behind(fill(v, bits, "1")); ok {
			l = append(l, end)
		}
	}
	for at := range m {
		mark(at)
	}
	for at := range p {
		mark(at)
	}
	slices.Sort(l)
	return slices.Compact(l)
}

// like tells whether two lists are of the same nodes.
func like(a, b []api.Node) bool {
	return slices.EqualFunc(a, b, func(x, y api.Node) bool { return x.Bits == y.Bits && slices.Equal(x.Runs, y.Runs) })
}

// number is what a cost's three numbers say, the highest first.
func number(a api.Cost) *big.Int {
	n := new(big.Int)
	for _, part := range a {
		n.Lsh(n, 64).Or(n, new(big.Int).SetUint64(part))
	}
	return n
}

// numberOf is that of a word.
func numberOf(w api.Word) *big.Int {
	return number(api.Cost{0, w.Hi, w.Lo})
}

// edges are routes at the edges that the document names.
func edges(family int) []set {
	first, last := fill("", family, "0"), fill("", family, "1")
	return []set{
		setOf(), setOf(""), {"": 65535}, setOf("0"), setOf("1"), setOf("0", "1"), setOf("", "0", "1"), setOf("", "1"), setOf("00"), setOf("00", "01", "10", "11"), setOf("000"), setOf("00", "100"),
		{"0": 7, "1": 7}, {"": 7, "0": 7}, {"": 7, "01": 7, "1": 8}, {"0": 1, "10": 1, "11": 2}, {"00": 1, "11": 65535, "": 65535},
		setOf(first), setOf(last), setOf(first, last), setOf("", first, last), setOf(turned(first)), setOf(first, turned(first)), setOf(last, turned(last)), setOf(first[1:], first), setOf(last[1:], last),
		setOf(first[1:], last[1:], first, last, turned(first), turned(last)), setOf(fill("0", family, "1"), fill("1", family, "0")), {"": 3, first: 3, last: 3}, {fill("0", family, "1"): 4, fill("1", family, "0"): 4},
	}
}

// roots are where small trees stand.
func roots(family int) []string {
	l := []string{"", "0", "1", "0110", fill("", family-6, "0"), fill("", family-6, "1"), fill("", family-9, "0") + "101", "00001010"}
	if family == 128 {
		l = append(l, strings.Repeat("01", 31), strings.Repeat("1", 62), strings.Repeat("0", 61)+"1", strings.Repeat("110", 30))
	}
	return l
}

// smallSet is one of the sets of nodes of a small tree, by the bits of a number: node 1 is the root, the kids of node i are 2i and 2i + 1; behind each bit there stands the gap. Their next hops are some few, so that neighbours often have the same.
func smallSet(root, gap string, bits int) set {
	m := set{}
	for i := 1; bits>>(i-1) > 0; i++ {
		if bits>>(i-1)&1 == 0 {
			continue
		}
		at := root
		for _, bit := range strconv.FormatInt(int64(i), 2)[1:] {
			at += string(bit) + gap
		}
		m[at] = []int{1, 65535, 300}[(i*i+bits)%3]
	}
	return m
}

// smallSets are all sets of a small tree's first n nodes.
func smallSets(root, gap string, n int) []set {
	var l []set
	for bits := range 1 << n {
		l = append(l, smallSet(root, gap, bits))
	}
	return l
}

// someSets are the edges, and sets without a pattern: thin ones over all addresses, thick ones in few of them, chains of prefixes within one another.
func someSets(family int) []set {
	next := counter()
	l := edges(family)
	for _, root := range roots(family) {
		l = append(l, smallSet(root, "", int(next()%(1<<31))), smallSet(root, "", int(next()&next()&next()%(1<<31))), smallSet(root, "01", int(next()%(1<<7))))
	}
	for i := range 24 {
		root := ""
		if i%3 > 0 {
			root = spell(api.Word{Hi: next(), Lo: next()}, int(next()%uint64(family-9)))
		}
		m := set{}
		for range next() % 30 {
			more := int(next() % 10)
			if i%3 == 2 {
				more = int(next() % uint64(min(40, family-len(root))+1))
			}
			m[root+spell(api.Word{Hi: next(), Lo: next()}, more)] = 1 + int(next()%[]uint64{65535, 3}[i%2])
		}
		l = append(l, m)
	}
	for _, s := range []string{fill("", family, "0"), spell(api.Word{Hi: next(), Lo: next()}, family)} {
		all, some := set{}, set{}
		for n := range family + 1 {
			all[s[:n]] = 1 + n
			if n > 0 && next()%5 == 0 {
				some[turned(s[:n])] = 1 + n%3
			}
		}
		l = append(l, all, some)
	}
	return l
}

// addresses are those, as texts, at which another next hop could begin, those beside them, and some others.
func (m set) addresses(family int, next func() uint64) []string {
	l := []string{fill("", family, "0"), fill("", family, "1")}
	for s := range m {
		for _, sign := range []string{"0", "1"} {
			at := fill(s, family, sign)
			l = append(l, at, spell(api.Word{Hi: next(), Lo: next()}, family), fill(s[:len(s)/2], family, sign))
			if other, ok := behind(at); ok {
				l = append(l, other)
			}
			if other, ok := ahead(at); ok {
				l = append(l, other)
			}
		}
	}
	slices.Sort(l)
	return slices.Compact(l)
}

// full is just MaxEntries routes of 20 bits, one beside the other. Nobody changes it.
var full = sync.OnceValue(func() []api.Route {
	l := make([]api.Route, api.MaxEntries)
	for i := range l {
		l[i] = api.Route{At: api.Prefix{Addr: api.Word{Hi: uint64(i) << 44}, Len: 20}, Hop: 1 + i%65535}
	}
	return l
})

// wrongTable is one with its error.
type wrongTable struct {
	x api.Table
	e api.Errno
}

// wrongTables are tables that are not right, each of which has errors behind that which is told, where it can have some.
func wrongTables(family int) []wrongTable {
	right := api.Route{At: made("0"), Hop: 1}
	long := api.Route{At: api.Prefix{Addr: lastSix, Len: family + 1}}
	below := api.Route{At: api.Prefix{Len: -1}, Hop: 1}
	host := api.Route{At: api.Prefix{Addr: ofBits("01"), Len: 1}}
	hop, none, under := api.Route{At: made("1"), Hop: 65536}, api.Route{At: made("1")}, api.Route{At: made("1"), Hop: -1}
	tooMany := append(slices.Clone(full()), api.Route{At: made(fill("", 21, "1")), Hop: 3})
	wrong := slices.Clone(tooMany)
	wrong[0], wrong[1] = long, right
	l := []wrongTable{
		{api.Table{W: family, Routes: tooMany}, api.ErrLimit},
		{api.Table{W: family, Routes: wrong}, api.ErrLimit},
		{api.Table{W: 64, Routes: wrong}, api.ErrFamily},
	}
	for _, x := range []struct {
		l []api.Route
		e api.Errno
	}{
		{[]api.Route{long}, api.ErrLen},
		{[]api.Route{below}, api.ErrLen},
		{[]api.Route{right, right, long, host}, api.ErrLen},
		{[]api.Route{host}, api.ErrHost},
		{[]api.Route{right, host, long}, api.ErrHost},
		{[]api.Route{right, hop}, api.ErrHop},
		{[]api.Route{right, none}, api.ErrHop},
		{[]api.Route{under}, api.ErrHop},
		{[]api.Route{right, right, none, host}, api.ErrHop},
		{[]api.Route{right, right}, api.ErrOrder},
		{[]api.Route{{At: made("1"), Hop: 1}, right}, api.ErrOrder},
		{[]api.Route{{At: made("00"), Hop: 1}, right}, api.ErrOrder},
		{[]api.Route{right, {At: made("1"), Hop: 1}, {At: made("01"), Hop: 1}}, api.ErrOrder},
	} {
		l = append(l, wrongTable{api.Table{W: family, Routes: x.l}, x.e})
	}
	for _, n := range noFamilies {
		l = append(l, wrongTable{api.Table{W: n}, api.ErrFamily}, wrongTable{api.Table{W: n, Routes: []api.Route{right, long, right}}, api.ErrFamily})
	}
	return l
}

// guarded lays a list into another one with marks ahead of it, and in its spare room; what it answers beside says whether all is as it was.
func guarded[T any](l []T, mark T, same func(a, b T) bool) ([]T, func() bool) {
	const more = 3
	whole := slices.Repeat([]T{mark}, len(l)+2*more)
	copy(whole[more:], l)
	was := slices.Clone(whole)
	return whole[more : more+len(l)], func() bool { return slices.EqualFunc(whole, was, same) }
}

func equal[T comparable](a, b T) bool {
	return a == b
}

// guardedNodes does so with nodes, and with the runs of each.
func guardedNodes(l []api.Node) ([]api.Node, func() bool) {
	var all []func() bool
	own := slices.Clone(l)
	for i, n := range l {
		runs, asTheyWere := guarded(n.Runs, markRun, equal)
		own[i].Runs = runs
		all = append(all, asTheyWere)
	}
	nodes, asTheyWere := guarded(own, markNode, func(a, b api.Node) bool {
		return a.Bits == b.Bits && len(a.Runs) == len(b.Runs) && (len(a.Runs) == 0 || &a.Runs[0] == &b.Runs[0])
	})
	all = append(all, asTheyWere)
	return nodes, func() bool {
		return !slices.ContainsFunc(all, func(asItWas func() bool) bool { return !asItWas() })
	}
}

// cloned is a list that shares nothing with another one.
func cloned(l []api.Node) []api.Node {
	l = slices.Clone(l)
	for i := range l {
		l[i].Runs = slices.Clone(l[i].Runs)
	}
	return l
}

// read4 is the set of a text's routes of the family 32: prefix, next hop, prefix, next hop.
func read4(text string) set {
	m := set{}
	for _, x := range stridesOf(text) {
		m[spell(x.At.Addr, x.At.Len)] = x.Bits
	}
	return m
}

// stridesOf is the list of a text's words: prefix, bits, prefix, bits.
func stridesOf(text string) []api.Stride {
	var l []api.Stride
	words := strings.Fields(text)
	for i := 0; i < len(words); i += 2 {
		p, e := prefix.Parse(32, words[i])
		bits, err := strconv.Atoi(words[i+1])
		if e != api.OK || err != nil {
			panic("no prefix, or no bits: " + words[i] + " " + words[i+1])
		}
		l = append(l, api.Stride{At: p, Bits: bits})
	}
	return l
}

// nodesOf is the list of a text: nodes with a sign ; between two, of each its bits, and its runs: the first slot, a sign = and a next hop, or a sign > and a node's number.
func nodesOf(text string) []api.Node {
	var l []api.Node
	for _, part := range strings.Split(text, ";") {
		words := strings.Fields(part)
		if len(words) == 0 {
			continue
		}
		n := api.Node{Bits: intOf(words[0])}
		for _, s := range words[1:] {
			from, to, kid := strings.Cut(s, ">")
			if !kid {
				from, to, _ = strings.Cut(s, "=")
			}
			w, ok := new(big.Int).SetString(from, 0)
			if !ok || w.Sign() < 0 || w.BitLen() > 128 {
				panic("no slot: " + from)
			}
			high := new(big.Int).Rsh(w, 64)
			low := new(big.Int).Sub(w, new(big.Int).Lsh(high, 64))
			n.Runs = append(n.Runs, api.Run{From: api.Word{Hi: high.Uint64(), Lo: low.Uint64()}, Kid: kid, N: intOf(to)})
		}
		l = append(l, n)
	}
	return l
}

func intOf(s string) int {
	n, err := strconv.Atoi(s)
	if err != nil {
		panic("no number: " + s)
	}
	return n
}

func TestSamplesAreSound(t *testing.T) {
	if made("00001010") != stridesOf("10.0.0.0/8 1")[0].At || ofBits(fill("", 128, "1")) != lastSix || turned("010") != "011" || fill("01", 4, "1") != "0111" || slotOf("110") != (api.Word{Lo: 6}) {
		t.Error("bits are not as they are")
	}
	if s, ok := behind("0111"); s != "1000" || !ok {
		t.Errorf("behind 0111: %s", s)
	}
	if s, ok := ahead("1000"); s != "0111" || !ok {
		t.Errorf("ahead of 1000: %s", s)
	}
	_, more := behind("11")
	if _, less := ahead("00"); more || less {
		t.Error("there is nothing behind the last one, nor ahead of the first")
	}
	x := setOf("00", "100").tree()
	if x.height[""] != 3 || x.height["10"] != 1 || !x.open("0") || x.open("00") || x.open("11") || !slices.Equal(x.below[""][1], []string{"0", "1"}) || !slices.Equal(x.below[""][2], []string{"10"}) || len(x.below[""][3]) != 0 {
		t.Errorf("a tree is not as it is: %v", x)
	}
	plans := x.plans()
	for _, p := range []plan{{"": 3}, {"": 2, "10": 1}, {"": 1, "0": 1, "1": 2}, {"": 1, "0": 1, "1": 1, "10": 1}} {
		if len(plans) != 4 || !x.isPlan(p) || !slices.ContainsFunc(plans, func(q plan) bool { return maps.Equal(p, q) }) {
			t.Errorf("%v is a plan", p)
		}
	}
	if x.isPlan(plan{}) || x.isPlan(plan{"": 2}) || x.isPlan(plan{"": 4}) || x.isPlan(plan{"": 3, "0": 1}) {
		t.Error("these are no plans")
	}
	if p := (plan{"": 1, "0": 1, "1": 1, "10": 1}); p.depth() != 3 || p.cost().Int64() != 8 {
		t.Errorf("%v: depth %d, cost %v", p, p.depth(), p.cost())
	}
	if m := (set{"": 9, "01": 3}); m.hop("0") != 9 || m.hop("011") != 3 || setOf("1").hop("01") != 0 {
		t.Error("the longest prefix is another one")
	}
	if l := nodesOf("1 0>1 1=9; 127 0=1 0x10000000000000002=0"); len(l) != 2 || l[0].Bits != 1 || l[0].Runs[0] != (api.Run{Kid: true, N: 1}) || l[0].Runs[1] != (api.Run{From: api.Word{Lo: 1}, N: 9}) || l[1].Runs[1] != (api.Run{From: api.Word{Hi: 1, Lo: 2}}) {
		t.Errorf("nodes: %v", l)
	}
	if number(api.Cost{1, 2, 3}).Text(16) != "100000000000000020000000000000003" || power(70).Text(16) != "400000000000000000" {
		t.Error("the highest is not first")
	}
	nodes, asTheyWere := guardedNodes(nodesOf("1 0>1 1=9; 1 0=1"))
	if !asTheyWere() {
		t.Error("nothing is changed, but it is told")
	}
	_ = append(nodes[1].Runs, api.Run{})
	if asTheyWere() {
		t.Error("spare room is changed, but it is not told")
	}
	for _, family := range families {
		for _, m := range someSets(family) {
			for s, h := range m {
				if len(s) > family || h < 1 || h > 65535 {
					t.Errorf("%s to %d is no route", s, h)
				}
			}
		}
	}
}

// TestEdgesWithinAreEnough: what the tests know of nodes of many bits is what they know by all slots.
func TestEdgesWithinAreEnough(t *testing.T) {
	for _, m := range smallSets("", "1", 7) {
		for _, p := range m.tree().plans() {
			for s := range p {
				few := m.edgesWithin(p, s)
				for _, v := range m.marked(p, s) {
					i, ok := slices.BinarySearch(few, v)
					if !ok {
						i--
					}
					_, kid := p[s+v]
					if m.hop(s+v) != m.hop(s+few[i]) && !kid || kid && !ok {
						t.Fatalf("%v: %s of %v at %s is not known", m, v, p, s)
					}
				}
			}
		}
	}
}
