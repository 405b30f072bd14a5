package fib

import (
	"encoding/binary"
	"encoding/hex"
	"hash/crc32"
	"maps"
	"math"
	"math/big"
	"slices"
	"strconv"
	"strings"
	"testing"

	"turnpike/api"
)

var (
	families = []int{32, 128}
	// noFamilies are numbers some of which end in the bits of a family.
	noFamilies = []int{math.MinInt, math.MinInt + 32, -128, -32, -1, 0, 1, 24, 31, 33, 64, 127, 129, 160, 255, 256, 256 + 32, 256 + 128, 1<<16 + 32, 1<<32 + 32, 1<<32 + 128, math.MaxInt}
	// enough are limits that no image is too long for, but by MaxImage.
	enough = []int{api.MaxImage, api.MaxImage + 1, 1 << 30, 1<<32 + 1, math.MaxInt}
	// errnos are all there are, but OK.
	errnos = []api.Errno{
		api.ErrArg, api.ErrNone, api.ErrKind, api.ErrLong, api.ErrWord, api.ErrWide, api.ErrFamily, api.ErrSyntax, api.ErrLen, api.ErrHost, api.ErrHop, api.ErrLimit, api.ErrDepth, api.ErrSize, api.ErrOrder,
		api.ErrMagic, api.ErrCut, api.ErrSum, api.ErrOp, api.ErrMap, api.ErrJump, api.ErrBits, api.ErrSteps, api.ErrFuel, api.ErrBounds, api.ErrUnused, api.ErrPlan, api.ErrPatch, api.ErrShut, api.ErrRefused,
	}
)

// counter makes numbers without a pattern, always the same ones.
func counter() func() uint64 {
	x := uint64(0x9e3779b97f4a7c15)
	return func() uint64 {
		x ^= x << 13
		x ^= x >> 7
		x ^= x << 17
		return x
	}
}

// upTo is a number from 0 on below most, without a pattern.
func upTo(next func() uint64, most int) int {
	return int(next() >> 11 % uint64(most))
}

// one is one of a list, without a pattern.
func one[T any](next func() uint64, l ...T) T {
	return l[upTo(next, len(l))]
}

func someBytes(next func() uint64, size int) []byte {
	b := make([]byte, size)
	for i := range b {
		b[i] = byte(next() >> 11)
	}
	return b
}

// mixed is a list in an order without a pattern.
func mixed[T any](next func() uint64, l []T) []T {
	l = slices.Clone(l)
	for i := range l {
		k := i + upTo(next, len(l)-i)
		l[i], l[k] = l[k], l[i]
	}
	return l
}

// short is bytes for a report: of long ones the first.
func short(b []byte) string {
	return strconv.Itoa(len(b)) + " bytes, " + hex.EncodeToString(b[:min(len(b), 200)])
}

// wordOf is the word whose first bits are those of a text of 0 and 1.
func wordOf(bits string) (w api.Word) {
	for i, c := range bits {
		if c == '1' && i < 64 {
			w.Hi |= 1 << (63 - i)
		} else if c == '1' {
			w.Lo |= 1 << (127 - i)
		}
	}
	return w
}

// bitsOf is the text of a number of so many bits.
func bitsOf(n, size int) string {
	s := strconv.FormatInt(int64(n), 2)
	if size == 0 {
		return ""
	}
	return strings.Repeat("0", size-len(s)) + s
}

// hops are a table: next hops by prefixes, which are texts of bits.
type hops map[string]int

// table is the right table of them: texts of bits are in the order of their prefixes.
func (h hops) table(family int) api.Table {
	t := api.Table{W: family}
	for _, s := range slices.Sorted(maps.Keys(h)) {
		t.Routes = append(t.Routes, api.Route{At: api.Prefix{Addr: wordOf(s), Len: len(s)}, Hop: h[s]})
	}
	return t
}

// of is the next hop of a text of bits by the words of DOC.md: that of the longest one with which it begins.
func (h hops) of(s string) int {
	for n := len(s); n >= 0; n-- {
		if hop, ok := h[s[:n]]; ok {
			return hop
		}
	}
	return 0
}

// prefixText is one form of a prefix as text; of a long address no :: stands for anything.
func prefixText(family int, bits string) string {
	s := bits + strings.Repeat("0", family-len(bits))
	part, base, sign := 8, 10, "."
	if family == 128 {
		part, base, sign = 16, 16, ":"
	}
	var l []string
	for ; s != ""; s = s[part:] {
		n, err := strconv.ParseUint(s[:part], 2, 64)
		if err != nil {
			panic("no bits: " + s)
		}
		l = append(l, strconv.FormatUint(n, base))
	}
	return strings.Join(l, sign) + "/" + strconv.Itoa(len(bits))
}

// lines are the entries of a table, one a line, in the order of their prefixes.
func (h hops) lines(family int) []string {
	var l []string
	for _, s := range slices.Sorted(maps.Keys(h)) {
		l = append(l, prefixText(family, s)+" "+strconv.Itoa(h[s])+"\n")
	}
	return l
}

func (h hops) text(family int) string {
	return strings.Join(h.lines(family), "")
}

// anyhow is another text of the same table: in any order, with blanks, remarks, empty lines, and entries that do not count.
func (h hops) anyhow(next func() uint64, family int) string {
	var l []string
	for _, s := range mixed(next, slices.Sorted(maps.Keys(h))) {
		at := prefixText(family, s)
		if family == 128 && upTo(next, 2) == 0 {
			at = strings.ToUpper(at)
		}
		for range upTo(next, 3) {
			l = append(l, at+" "+strconv.Itoa(1+upTo(next, 65535)))
		}
		l = append(l, one(next, "", " ", "\t ")+at+one(next, " ", "\t", "  \t")+strconv.Itoa(h[s])+one(next, "", " ", "\t", "#", " # 1 2 3"))
		if upTo(next, 4) == 0 {
			l = append(l, one(next, "", " ", "# x", "\t#"))
		}
	}
	return strings.Join(l, "\n") + one(next, "", "\n", "\n\n# end")
}

// tree is that of a table by the words of W7, and what the words of chapter 10 tell of it.
type tree struct {
	height map[string]int
	lower  map[asked][]string
	known  map[asked]choice
}

// asked is a node, and a number of bits or of nodes.
type asked struct {
	n      string
	number int
}

// choice is the least cost of a node and the fewest bits with which that is so.
type choice struct {
	cost *big.Int
	bits int
}

func treeOf(h hops) tree {
	t := tree{height: map[string]int{"": 0}, lower: map[asked][]string{}, known: map[asked]choice{}}
	for s := range h {
		for n := range len(s) + 1 {
			t.height[s[:n]] = max(t.height[s[:n]], len(s)-n)
		}
	}
	return t
}

// below tells the open nodes that are so many bits longer within one.
func (t tree) below(n string, bits int) []string {
	switch {
	case t.height[n] == 0:
		return nil
	case bits == 0:
		return []string{n}
	}
	l, ok := t.lower[asked{n, bits}]
	if !ok {
		l = slices.Concat(t.below(n+"0", bits-1), t.below(n+"1", bits-1))
		t.lower[asked{n, bits}] = l
	}
	return l
}

func (t tree) best(n string, nodes int) choice {
	// A path meets no more open nodes than there are bits.
	nodes = min(nodes, t.height[n])
	if c, ok := t.known[asked{n, nodes}]; ok {
		return c
	}
	var c choice
	for s := 1; s <= t.height[n]; s++ {
		below := t.below(n, s)
		if len(below) > 0 && nodes < 2 {
			continue
		}
		sum := new(big.Int).Lsh(big.NewInt(1), uint(s))
		for _, m := range below {
			sum.Add(sum, t.best(m, nodes-1).cost)
		}
		if c.cost == nil || sum.Cmp(c.cost) < 0 {
			c = choice{sum, s}
		}
	}
	t.known[asked{n, nodes}] = c
	return c
}

// plan puts the bits that are chosen into a map by prefix.
func (t tree) plan(bits map[string]int, n string, nodes int) {
	bits[n] = t.best(n, nodes).bits
	for _, m := range t.below(n, bits[n]) {
		t.plan(bits, m, nodes-1)
	}
}

// run is one of a node by the words of W9: in its slots stands a next hop, or the number of a node.
type run struct {
	from int
	kid  bool
	n    int
}

// block is a node, of equal ones one alone.
type block struct {
	bits int
	runs []run
}

// blocks are the nodes of a plan by the words of chapters 11 and 12.
type blocks struct {
	h    hops
	plan map[string]int
	all  []block
	by   map[string]int // their numbers, by their texts
}

// at tells the number of the node that stands at a prefix.
func (x *blocks) at(p string) int {
	b := block{bits: x.plan[p]}
	for v := range 1 << b.bits {
		q := p + bitsOf(v, b.bits)
		r := run{from: v}
		if _, ok := x.plan[q]; ok && b.bits > 0 {
			r.kid, r.n = true, x.at(q)
		} else {
			r.n = x.h.of(q)
		}
		if end := len(b.runs) - 1; end >= 0 && b.runs[end].kid == r.kid && b.runs[end].n == r.n {
			continue
		}
		b.runs = append(b.runs, r)
	}
	text := strconv.Itoa(b.bits)
	for _, r := range b.runs {
		text += " " + strconv.Itoa(r.from) + map[bool]string{false: "=", true: ">"}[r.kid] + strconv.Itoa(r.n)
	}
	number, ok := x.by[text]
	if !ok {
		number = len(x.all)
		x.all = append(x.all, b)
		x.by[text] = number
	}
	return number
}

// order is that of chapter 12.
func (x *blocks) order(first int) []int {
	var done []int
	met := map[int]bool{}
	var walk func(n int)
	walk = func(n int) {
		met[n] = true
		for _, r := range slices.Backward(x.all[n].runs) {
			if r.kid && !met[r.n] {
				walk(r.n)
			}
		}
		done = append(done, n)
	}
	walk(first)
	slices.Reverse(done)
	return done
}

// mapWords is how many words a map of so many bits has.
func mapWords(bits int) int {
	return max(1, 1<<bits/32)
}

// code is that of chapter 16.
func (x *blocks) code(order []int) []uint32 {
	place, words := map[int]int{}, 0
	for _, n := range order {
		place[n] = words
		words += 2 + mapWords(x.all[n].bits) + len(x.all[n].runs)
	}
	var out []uint32
	for _, n := range order {
		b := x.all[n]
		set := make([]uint32, mapWords(b.bits))
		for _, r := range b.runs {
			set[r.from/32] |= 1 << (31 - r.from%32)
		}
		if b.bits > 0 {
			out = append(append(out, 1<<24|uint32(b.bits), 2<<24|uint32(b.bits)), set...)
		}
		for _, r := range b.runs {
			if r.kid {
				out = append(out, 3<<24|uint32(place[r.n]-len(out)))
			} else {
				out = append(out, 4<<24|uint32(r.n))
			}
		}
	}
	return out
}

// deepest is how many nodes of some bits a way from one meets at most.
func (x *blocks) deepest(n int) int {
	most := 0
	for _, r := range x.all[n].runs {
		if r.kid {
			most = max(most, x.deepest(r.n))
		}
	}
	return most + min(1, x.all[n].bits)
}

// bytesOf is words as bytes.
func bytesOf(words []uint32) []byte {
	var b []byte
	for _, w := range words {
		b = binary.BigEndian.AppendUint32(b, w)
	}
	return b
}

// framed is code behind a head whose numbers are these, by the words of chapter 17; whether they are right is not asked.
func framed(family, depth, steps int, code []byte) []byte {
	b := append([]byte("TPK1"), byte(family), byte(depth), byte(steps>>8), byte(steps))
	b = binary.BigEndian.AppendUint32(b, uint32(len(code)/4))
	sum := crc32.Checksum(slices.Concat(b, code), crc32.MakeTable(crc32.Castagnoli))
	return append(binary.BigEndian.AppendUint32(b, sum), code...)
}

// imageBy is the image of a table by a depth, told by the chapters' words without the layers below; false, if a node has more bits than may be gone through slot by slot.
func imageBy(family int, h hops, depth int) ([]byte, bool) {
	t := treeOf(h)
	x := blocks{h: h, plan: map[string]int{}, by: map[string]int{}}
	if t.height[""] > 0 {
		t.plan(x.plan, "", depth)
	}
	for _, bits := range x.plan {
		if bits > 10 {
			return nil, false
		}
	}
	first := x.at("")
	deep := x.deepest(first)
	return framed(family, deep, max(1, 3*deep), bytesOf(x.code(x.order(first)))), true
}

// someHops is a table without a pattern: prefixes that lie within one another and beside one another, some of whose parts are alike.
func someHops(next func() uint64, family int) hops {
	h := hops{}
	longest := one(next, 1, 3, 6, 10, 14, 24, 32, 48)
	if family == 32 {
		longest = min(longest, 32)
	}
	some := func(size int) string {
		s := ""
		for range size {
			s += bitsOf(upTo(next, 2), 1)
		}
		return s
	}
	starts := []string{"", some(upTo(next, longest+1)), some(upTo(next, longest+1))}
	ends := []string{"", some(1 + upTo(next, 6)), some(1 + upTo(next, 3))}
	most := one(next, 1, 2, 3, 65535)
	for range upTo(next, one(next, 1, 4, 12, 30)) {
		s := one(next, starts...) + one(next, ends...) + one(next, ends...)
		if upTo(next, 2) == 0 {
			s = some(upTo(next, longest+1))
		}
		h[s[:min(len(s), longest)]] = 1 + upTo(next, most)
	}
	return h
}

// edgeHops are tables of the edges.
func edgeHops(family int) []hops {
	whole := strings.Repeat("01", family/2)
	l := []hops{
		{}, {"": 1}, {"": 65535}, {"0": 5}, {"1": 5}, {"0": 5, "1": 6}, {"0": 5, "1": 5}, {"": 5, "0": 5, "1": 5}, {"": 9, "00": 1}, {"000": 1, "100": 1}, {"00": 1, "100": 2}, {"": 1, "0": 2, "00": 3, "000": 4},
		{"0000": 1, "0100": 1, "1000": 2, "1100": 2}, {"0001": 1, "0011": 1, "0101": 1, "0111": 1, "1001": 1}, {whole[:14]: 7}, {whole: 1}, {whole: 1, whole[:family-1] + "0": 2, "": 3}, {whole[:family-1]: 65535, whole: 1},
	}
	chain := hops{}
	for n := range 20 {
		chain[whole[:n]] = n + 1
	}
	return append(l, chain)
}

// someAddress is a text of bits of an address, which begins as some prefix of a table does.
func someAddress(next func() uint64, family int, h hops) string {
	s := ""
	if len(h) > 0 && upTo(next, 5) > 0 {
		s = one(next, slices.Sorted(maps.Keys(h))...)
	}
	s = s[:len(s)-upTo(next, 1+min(len(s), one(next, 0, 2, 40)))]
	fill := one(next, "0", "1", "")
	for len(s) < family {
		if fill == "" {
			s += bitsOf(upTo(next, 2), 1)
		} else {
			s += fill
		}
	}
	return s
}

// edgesOf are the first and the last address of each prefix, and of all.
func edgesOf(family int, h hops) []string {
	l := []string{strings.Repeat("0", family), strings.Repeat("1", family)}
	for _, s := range slices.Sorted(maps.Keys(h)) {
		l = append(l, s+strings.Repeat("0", family-len(s)), s+strings.Repeat("1", family-len(s)))
	}
	return l
}

// sample is a table and a depth.
type sample struct {
	family int
	h      hops
	depth  int
}

// samples are tables of all kinds, both families, several depths.
func samples(count int) []sample {
	next := counter()
	var l []sample
	for _, family := range families {
		for _, h := range edgeHops(family) {
			for _, depth := range []int{1, 2, 3, 5, 20, family} {
				l = append(l, sample{family, h, depth})
			}
		}
	}
	for range count {
		family := one(next, families...)
		l = append(l, sample{family, someHops(next, family), one(next, 1, 2, 3, 4, 6, 9, family)})
	}
	return l
}

// images are those of samples, but of those for which there is none, each with what it was made of.
func images(t *testing.T, count int) (l []sample, all [][]byte) {
	t.Helper()
	for _, x := range samples(count) {
		b, e := Make(x.h.table(x.family), x.depth, api.MaxImage)
		if e == api.OK {
			l, all = append(l, x), append(all, b)
		} else if e != api.ErrSize {
			t.Fatalf("%v by %d: %v", x.h, x.depth, e)
		}
	}
	if len(all) < count/2 {
		t.Fatalf("only %d of %d samples have an image", len(all), count)
	}
	return l, all
}

// codeOf is the code of a text of words: x, i, j, r and a number are the first words of OExtract, OIndex, OJump, OReturn of it; words of a map stand behind that of an i, a sign : ahead of each; a sign # stands ahead of a word as it is.
func codeOf(text string) []byte {
	var l []uint32
	for _, s := range strings.Fields(text) {
		parts := strings.Split(s[1:], ":")
		if s[0] == '#' {
			parts = []string{"0", s[1:]}
		} else {
			n, err := strconv.Atoi(parts[0])
			if err != nil {
				panic("no number: " + s)
			}
			l = append(l, uint32(1+strings.IndexByte("xijr", s[0]))<<24|uint32(n))
		}
		for _, p := range parts[1:] {
			w, err := strconv.ParseUint(p, 16, 32)
			if err != nil || len(p) != 8 {
				panic("no word: " + p)
			}
			l = append(l, uint32(w))
		}
	}
	return bytesOf(l)
}

// guarded is a copy of a list with room behind it, and a function that tells whether both are as they were.
func guarded[T comparable](l []T, behind T) (handed []T, asItWas func() bool) {
	all := append(slices.Clone(l), slices.Repeat([]T{behind}, 8)...)
	was := slices.Clone(all)
	return all[:len(l)], func() bool { return slices.Equal(all, was) }
}

func TestSamplesAreSound(t *testing.T) {
	if w := wordOf("1" + strings.Repeat("0", 63) + "01"); w != (api.Word{Hi: 1 << 63, Lo: 1 << 62}) {
		t.Errorf("a word of bits: %x", w)
	}
	if s := prefixText(32, "0000101000000001"); s != "10.1.0.0/16" {
		t.Errorf("a prefix: %s", s)
	}
	if s := prefixText(128, "001000000000000111"); s != "2001:c000:0:0:0:0:0:0/18" {
		t.Errorf("a prefix: %s", s)
	}
	h := hops{"": 9, "00": 1, "0011": 2}
	if h.of("0011") != 2 || h.of("0010") != 1 || h.of("01") != 9 || (hops{"1": 1}).of("0") != 0 {
		t.Error("a next hop is another one")
	}
	x := treeOf(hops{"00": 1, "100": 2})
	if x.height[""] != 3 || x.height["10"] != 1 || x.best("", 1).cost.Int64() != 8 || x.best("", 2).cost.Int64() != 6 || x.best("", 2).bits != 2 || x.best("", 3).cost.Int64() != 6 {
		t.Errorf("example 1 of chapter 10: %v", x)
	}
	// By 2 bits, and two nodes of 1 bit, which are equal.
	if b, ok := imageBy(32, hops{"000": 1, "100": 1}, 2); !ok || hex.EncodeToString(b[16:]) != hex.EncodeToString(codeOf("x2 i2:f0000000 j4 r0 j2 r0 x1 i1:c0000000 r1 r0")) {
		t.Errorf("an image: %x", b)
	}
	kinds, deep := map[bool]int{}, map[int]int{}
	for _, s := range samples(2000) {
		b, ok := imageBy(s.family, s.h, s.depth)
		kinds[ok]++
		if ok {
			deep[int(b[5])]++
		}
	}
	if kinds[true] < 1200 || kinds[false] < 50 || len(deep) < 10 || deep[0] < 50 {
		t.Errorf("the samples: %v, %v", kinds, deep)
	}
}
