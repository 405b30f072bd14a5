package stride

import (
	"maps"
	"math"
	"math/big"
	"slices"
	"strconv"
	"strings"
	"sync"
	"testing"

	"turnpike/api"
	"turnpike/cost"
	"turnpike/prefix"
)

var (
	families = []int{32, 128}
	// noFamilies are numbers that are no family, those beside one and far off among them.
	noFamilies = []int{math.MinInt, -128, -32, -1, 0, 1, 8, 16, 31, 33, 64, 96, 127, 129, 160, 256, math.MaxInt}
	lastSix    = api.Word{Hi: math.MaxUint64, Lo: math.MaxUint64}
	mark       = api.Route{At: api.Prefix{Addr: api.Word{Hi: 0xdead, Lo: 0xbeef}, Len: 77}, Hop: -5}
	markStride = api.Stride{At: api.Prefix{Addr: api.Word{Hi: 0xdead, Lo: 0xbeef}, Len: 77}, Bits: -5}
)

// noNumbers are depths and bits that may not be, some of which end in the bits of one that may.
func noNumbers(family int) []int {
	return []int{math.MinInt, math.MinInt + 1, -1 << 32, -256, -family, -2, -1, 0, family + 1, family + 2, 2*family + 1, 256, 257, 1<<16 + 1, 1<<32 + 1, math.MaxInt - 1, math.MaxInt}
}

// spell writes the first n bits of a word as signs 0 and 1. What the document says of prefixes and nodes is said of such texts by the library's strings: the tests hold the one against the other.
func spell(w api.Word, n int) string {
	b := make([]byte, n)
	for i := range n {
		half, at := w.Hi, 63-i
		if i >= 64 {
			half, at = w.Lo, 127-i
		}
		b[i] = '0' + byte(half>>at&1)
	}
	return string(b)
}

// ofBits is the word that begins with these bits.
func ofBits(s string) api.Word {
	var w api.Word
	for i := range len(s) {
		if s[i] == '0' {
			continue
		}
		if i < 64 {
			w.Hi |= 1 << (63 - i)
		} else {
			w.Lo |= 1 << (127 - i)
		}
	}
	return w
}

// made is the prefix of these bits.
func made(s string) api.Prefix {
	return api.Prefix{Addr: ofBits(s), Len: len(s)}
}

// fill makes a text as long as an address by more signs of one kind.
func fill(s string, family int, sign string) string {
	return s + strings.Repeat(sign, family-len(s))
}

// turned is the text with its last sign the other one.
func turned(s string) string {
	end := len(s) - 1
	return s[:end] + string('0'+'1'-rune(s[end]))
}

// counter makes numbers without a pattern, always the same ones.
func counter() func() uint64 {
	x := uint64(0x9e3779b97f4a7c15)
	return func() uint64 {
		x ^= x << 13
		x ^= x >> 7
		x ^= x << 17
		return x
	}
}

// set is prefixes as texts: all that plans hang on. The order of such texts is that of prefixes.
type set map[string]int

func setOf(l ...string) set {
	m := set{}
	for _, s := range l {
		m[s] = 1
	}
	return m
}

// table is one of these prefixes that is right by W5.
func (m set) table(family int) api.Table {
	x := api.Table{W: family}
	for i, s := range slices.Sorted(maps.Keys(m)) {
		x.Routes = append(x.Routes, api.Route{At: made(s), Hop: 1 + i*i%65535})
	}
	return x
}

// with is the set and one prefix more.
func (m set) with(s string) set {
	more := maps.Clone(m)
	more[s] = 1
	return more
}

// tree is one as the tests know it, by W7's words.
type tree struct {
	height map[string]int
	below  map[string]map[int][]string // by an open node and a number of bits: the open nodes that are so many bits longer, in order
}

func (m set) tree() tree {
	x := tree{height: map[string]int{"": 0}, below: map[string]map[int][]string{}}
	for s := range m {
		for n := range len(s) + 1 {
			x.height[s[:n]] = max(x.height[s[:n]], len(s)-n)
		}
	}
	for _, s := range slices.Sorted(maps.Keys(x.height)) {
		if !x.open(s) {
			continue
		}
		x.below[s] = map[int][]string{}
		for n := range len(s) {
			l := x.below[s[:n]]
			l[len(s)-n] = append(l[len(s)-n], s)
		}
	}
	return x
}

func (x tree) open(s string) bool {
	return x.height[s] > 0
}

// plan is one as the tests know it: which node takes how many bits.
type plan map[string]int

// strides are those of a plan, in order.
func (p plan) strides() []api.Stride {
	var l []api.Stride
	for _, s := range slices.Sorted(maps.Keys(p)) {
		l = append(l, api.Stride{At: made(s), Bits: p[s]})
	}
	return l
}

// cost is the sum of 2^s.
func (p plan) cost() *big.Int {
	n := new(big.Int)
	for _, bits := range p {
		n.Add(n, new(big.Int).Lsh(big.NewInt(1), uint(bits)))
	}
	return n
}

// depth is how many nodes a path meets at most: those within which one of them lies, itself among them.
func (p plan) depth() int {
	most := 0
	for s := range p {
		met := 0
		for n := range len(s) + 1 {
			if _, ok := p[s[:n]]; ok {
				met++
			}
		}
		most = max(most, met)
	}
	return most
}

// isPlan tells by W8's words whether this is a plan of the tree.
func (x tree) isPlan(p plan) bool {
	needed := plan{}
	todo := []string{""}
	for len(todo) > 0 {
		s := todo[0]
		todo = todo[1:]
		if !x.open(s) {
			continue
		}
		bits, ok := p[s]
		if !ok || bits < 1 || bits > x.height[s] {
			return false
		}
		needed[s] = bits
		todo = append(todo, x.below[s][bits]...)
	}
	return maps.Equal(needed, p)
}

// grown is the plan in which each node takes the bits that are told of it.
func (x tree) grown(takes func(s string, met int) int) plan {
	p := plan{}
	var grow func(s string, met int)
	grow = func(s string, met int) {
		p[s] = takes(s, met)
		for _, m := range x.below[s][p[s]] {
			grow(m, met+1)
		}
	}
	if x.open("") {
		grow("", 1)
	}
	return p
}

// even is the plan in which each node takes so many bits, or its height.
func (x tree) even(bits int) plan {
	return x.grown(func(s string, _ int) int { return min(bits, x.height[s]) })
}

// plans are all of a tree.
func (x tree) plans() []plan {
	if !x.open("") {
		return []plan{{}}
	}
	return x.plansAt("")
}

// plansAt are all from an open node on.
func (x tree) plansAt(s string) []plan {
	var l []plan
	for bits := 1; bits <= x.height[s]; bits++ {
		some := []plan{{s: bits}}
		for _, m := range x.below[s][bits] {
			var more []plan
			for _, a := range some {
				for _, b := range x.plansAt(m) {
					both := maps.Clone(a)
					maps.Copy(both, b)
					more = append(more, both)
				}
			}
			some = more
		}
		l = append(l, some...)
	}
	return l
}

// ask is an open node and how many nodes a path may meet from it on.
type ask struct {
	s     string
	nodes int
}

// told is c and s of it.
type told struct {
	cost *big.Int
	bits int
}

// asked tells c(N, k) and s(N, k) of open nodes, by the chapter's words.
func (x tree) asked() func(s string, nodes int) told {
	kept := map[ask]told{}
	var tell func(s string, nodes int) told
	tell = func(s string, nodes int) told {
		if y, ok := kept[ask{s, nodes}]; ok {
			return y
		}
		var best told
		for bits := 1; bits <= x.height[s]; bits++ {
			below := x.below[s][bits]
			if len(below) > 0 && nodes < 2 {
				continue
			}
			n := new(big.Int).Lsh(big.NewInt(1), uint(bits))
			for _, m := range below {
				n.Add(n, tell(m, nodes-1).cost)
			}
			if best.cost == nil || n.Cmp(best.cost) < 0 {
				best = told{n, bits}
			}
		}
		kept[ask{s, nodes}] = best
		return best
	}
	return tell
}

// best is what P1001 says of Best and of Least.
func (x tree) best(tell func(s string, nodes int) told, depth int) (plan, *big.Int) {
	if !x.open("") {
		return plan{}, new(big.Int)
	}
	p := x.grown(func(s string, met int) int { return tell(s, depth+1-met).bits })
	return p, tell("", depth).cost
}

// number is what a cost's three numbers say, the highest first.
func number(a api.Cost) *big.Int {
	n := new(big.Int)
	for _, part := range a {
		n.Lsh(n, 64).Or(n, new(big.Int).SetUint64(part))
	}
	return n
}

// edges are prefixes at the edges that the document names.
func edges(family int) []set {
	first, last := fill("", family, "0"), fill("", family, "1")
	return []set{
		setOf(), setOf(""), setOf("0"), setOf("1"), setOf("0", "1"), setOf("", "0", "1"), setOf("", "1"), setOf("00"), setOf("00", "01", "10", "11"), setOf("000"), setOf("00", "100"),
		setOf(first), setOf(last), setOf(first, last), setOf("", first, last), setOf(turned(first)), setOf(first, turned(first)), setOf(last, turned(last)), setOf(first[1:], first), setOf(last[1:], last),
		setOf(first[1:], last[1:], first, last, turned(first), turned(last)), setOf(fill("0", family, "1"), fill("1", family, "0")),
	}
}

// roots are where small trees stand for which not all plans are gone over.
func roots(family int) []string {
	l := []string{"", "0", "1", "0110", fill("", family-6, "0"), fill("", family-6, "1"), fill("", family-9, "0") + "101", "00001010"}
	if family == 128 {
		l = append(l, strings.Repeat("01", 31), strings.Repeat("1", 62), strings.Repeat("0", 61)+"1", strings.Repeat("110", 30))
	}
	return l
}

// smallSet is one of the sets of nodes of a small tree, by the bits of a number: node 1 is the root, the kids of node i are 2i and 2i + 1; behind each bit there stands the gap.
func smallSet(root, gap string, bits int) set {
	m := set{}
	for i := 1; bits>>(i-1) > 0; i++ {
		if bits>>(i-1)&1 == 0 {
			continue
		}
		at := root
		for _, bit := range strconv.FormatInt(int64(i), 2)[1:] {
			at += string(bit) + gap
		}
		m[at] = 1
	}
	return m
}

// smallSets are all sets of a small tree's first n nodes.
func smallSets(root, gap string, n int) []set {
	var l []set
	for bits := range 1 << n {
		l = append(l, smallSet(root, gap, bits))
	}
	return l
}

// planSets are sets of which all plans can be gone over.
func planSets() []set {
	next := counter()
	l := smallSets("", "", 7)
	for _, root := range []string{"0", "11", "010"} {
		for range 12 {
			l = append(l, smallSet(root, "", int(next()%(1<<15))))
		}
	}
	for range 40 {
		l = append(l, smallSet("", "", int(next()%(1<<15))), smallSet("", "1", int(next()%(1<<7))), smallSet("", "", int(next()&next()%(1<<31))))
	}
	for n := range 11 {
		l = append(l, setOf(strings.Repeat("1", n)), setOf(strings.Repeat("01", n/2), strings.Repeat("0", n/2)))
	}
	// Five and six bits down there are many plans: so few prefixes, and one whole tree.
	for range 60 {
		m := set{}
		for range 1 + next()%6 {
			m[spell(api.Word{Hi: next()}, 2+int(next()%5))] = 1
		}
		l = append(l, m)
	}
	return append(l, smallSet("", "", 1<<63-1<<31))
}

// someSets are the edges, and sets without a pattern: thin ones over all addresses, thick ones in few of them, chains of prefixes within one another.
func someSets(family int) []set {
	next := counter()
	l := edges(family)
	for _, root := range roots(family) {
		l = append(l, smallSet(root, "", int(next()%(1<<31))), smallSet(root, "", int(next()&next()&next()%(1<<31))), smallSet(root, "01", int(next()%(1<<7))))
	}
	for i := range 24 {
		root := ""
		if i%3 > 0 {
			root = spell(api.Word{Hi: next(), Lo: next()}, int(next()%uint64(family-9)))
		}
		m := set{}
		for range next() % 30 {
			more := int(next() % 10)
			if i%3 == 2 {
				more = int(next() % uint64(min(40, family-len(root))+1))
			}
			m[root+spell(api.Word{Hi: next(), Lo: next()}, more)] = 1
		}
		l = append(l, m)
	}
	for _, s := range []string{fill("", family, "0"), spell(api.Word{Hi: next(), Lo: next()}, family)} {
		all, some := set{}, set{}
		for n := range family + 1 {
			all[s[:n]] = 1
			if n > 0 && next()%5 == 0 {
				some[turned(s[:n])] = 1
			}
		}
		l = append(l, all, some)
	}
	return l
}

// depths are those of a family that tests ask by: both ends, and what lies around the height.
func depths(family, height int) []int {
	l := []int{1, 2, 3, 6, height - 1, height, height + 1, family}
	l = slices.DeleteFunc(l, func(n int) bool { return n < 1 || n > family })
	slices.Sort(l)
	return slices.Compact(l)
}

// full is just MaxEntries routes of 20 bits, one beside the other. Nobody changes it.
var full = sync.OnceValue(func() []api.Route {
	l := make([]api.Route, api.MaxEntries)
	for i := range l {
		l[i] = api.Route{At: api.Prefix{Addr: api.Word{Hi: uint64(i) << 44}, Len: 20}, Hop: 1 + i%65535}
	}
	return l
})

// wrongTable is one with its error.
type wrongTable struct {
	x api.Table
	e api.Errno
}

// wrongTables are tables that are not right, each of which has errors behind that which is told, where it can have some.
func wrongTables(family int) []wrongTable {
	right := api.Route{At: made("0"), Hop: 1}
	long := api.Route{At: api.Prefix{Addr: lastSix, Len: family + 1}}
	below := api.Route{At: api.Prefix{Len: -1}, Hop: 1}
	host := api.Route{At: api.Prefix{Addr: ofBits("01"), Len: 1}}
	hop, none, under := api.Route{At: made("1"), Hop: 65536}, api.Route{At: made("1")}, api.Route{At: made("1"), Hop: -1}
	tooMany := append(slices.Clone(full()), api.Route{At: made(fill("", 21, "1")), Hop: 3})
	wrong := slices.Clone(tooMany)
	wrong[0], wrong[1] = long, right
	l := []wrongTable{
		{api.Table{W: family, Routes: tooMany}, api.ErrLimit},
		{api.Table{W: family, Routes: wrong}, api.ErrLimit},
		{api.Table{W: 64, Routes: wrong}, api.ErrFamily},
	}
	for _, x := range []struct {
		l []api.Route
		e api.Errno
	}{
		{[]api.Route{long}, api.ErrLen},
		{[]api.Route{below}, api.ErrLen},
		{[]api.Route{right, right, long, host}, api.ErrLen},
		{[]api.Route{host}, api.ErrHost},
		{[]api.Route{right, host, long}, api.ErrHost},
		{[]api.Route{right, hop}, api.ErrHop},
		{[]api.Route{right, none}, api.ErrHop},
		{[]api.Route{under}, api.ErrHop},
		{[]api.Route{right, right, none, host}, api.ErrHop},
		{[]api.Route{right, right}, api.ErrOrder},
		{[]api.Route{{At: made("1"), Hop: 1}, right}, api.ErrOrder},
		{[]api.Route{{At: made("00"), Hop: 1}, right}, api.ErrOrder},
		{[]api.Route{right, {At: made("1"), Hop: 1}, {At: made("01"), Hop: 1}}, api.ErrOrder},
	} {
		l = append(l, wrongTable{api.Table{W: family, Routes: x.l}, x.e})
	}
	for _, n := range noFamilies {
		l = append(l, wrongTable{api.Table{W: n}, api.ErrFamily}, wrongTable{api.Table{W: n, Routes: []api.Route{right, long, right}}, api.ErrFamily})
	}
	return l
}

// guarded lays a list into another one with marks ahead of it, and in its spare room; what it answers beside says whether all is as it was.
func guarded[T comparable](l []T, mark T) ([]T, func() bool) {
	const more = 3
	whole := slices.Repeat([]T{mark}, len(l)+2*more)
	copy(whole[more:], l)
	was := slices.Clone(whole)
	return whole[more : more+len(l)], func() bool { return slices.Equal(whole, was) }
}

// read4 is the table of a text's prefixes of the family 32.
func read4(text string) api.Table {
	x := api.Table{W: 32}
	for _, s := range strings.Fields(text) {
		x.Routes = append(x.Routes, api.Route{At: readPrefix(s), Hop: 1})
	}
	return x
}

func readPrefix(s string) api.Prefix {
	p, e := prefix.Parse(32, s)
	if e != api.OK {
		panic("no prefix: " + s)
	}
	return p
}

// stridesOf is the list of a text's words: prefix, bits, prefix, bits.
func stridesOf(text string) []api.Stride {
	var l []api.Stride
	words := strings.Fields(text)
	for i := 0; i < len(words); i += 2 {
		bits, err := strconv.Atoi(words[i+1])
		if err != nil {
			panic("no bits: " + words[i+1])
		}
		l = append(l, api.Stride{At: readPrefix(words[i]), Bits: bits})
	}
	return l
}

func TestSamplesAreSound(t *testing.T) {
	if made("00001010") != readPrefix("10.0.0.0/8") || ofBits(fill("", 128, "1")) != lastSix || turned("010") != "011" || fill("01", 4, "1") != "0111" {
		t.Error("bits are not as they are")
	}
	x := setOf("00", "100").tree()
	if x.height[""] != 3 || x.height["10"] != 1 || !x.open("0") || x.open("00") || x.open("11") || !slices.Equal(x.below[""][1], []string{"0", "1"}) || !slices.Equal(x.below[""][2], []string{"10"}) || len(x.below[""][3]) != 0 {
		t.Errorf("a tree is not as it is: %v", x)
	}
	// By hand: 3 bits; 2 and 1; 1, 1 and 2; 1, 1, 1 and 1.
	plans := x.plans()
	if len(plans) != 4 {
		t.Fatalf("%d plans", len(plans))
	}
	for _, p := range []plan{{"": 3}, {"": 2, "10": 1}, {"": 1, "0": 1, "1": 2}, {"": 1, "0": 1, "1": 1, "10": 1}} {
		if !x.isPlan(p) || !slices.ContainsFunc(plans, func(q plan) bool { return maps.Equal(p, q) }) {
			t.Errorf("%v is a plan", p)
		}
	}
	for _, p := range []plan{{}, {"": 4}, {"": 0}, {"": 1, "0": 1}, {"": 2, "10": 1, "00": 1}, {"": 3, "0": 1}, {"10": 1}} {
		if x.isPlan(p) {
			t.Errorf("%v is no plan", p)
		}
	}
	if p := (plan{"": 1, "0": 1, "1": 1, "10": 1}); p.depth() != 3 || p.cost().Int64() != 8 || p.strides()[3] != (api.Stride{At: made("10"), Bits: 1}) {
		t.Errorf("%v: depth %d, cost %v", p, p.depth(), p.cost())
	}
	if y := x.asked()("", 2); y.cost.Int64() != 6 || y.bits != 2 {
		t.Errorf("%v", y)
	}
	if x := (set{}).tree(); x.open("") || len(x.plans()) != 1 || !x.isPlan(plan{}) || x.isPlan(plan{"": 1}) {
		t.Error("the tree of no routes")
	}
	if number(api.Cost{1, 2, 3}).Text(16) != "100000000000000020000000000000003" || number(cost.Of(9)).Int64() != 9 {
		t.Error("the highest is not first")
	}
	if m := smallSet("1", "01", 9); len(m) != 2 || m["1"] != 1 || m["1001001"] != 1 {
		t.Errorf("small sets: %v", m)
	}
	g, asItWas := guarded(setOf("0").table(32).Routes, mark)
	if !asItWas() {
		t.Error("nothing is changed, but it is told")
	}
	_ = append(g, api.Route{})
	if asItWas() {
		t.Error("spare room is changed, but it is not told")
	}
	for _, family := range families {
		for _, m := range someSets(family) {
			for s := range m {
				if len(s) > family {
					t.Errorf("%s is no prefix", s)
				}
			}
		}
	}
}
