package verify

import (
	"encoding/binary"
	"encoding/hex"
	"maps"
	"math"
	"slices"
	"strconv"
	"strings"
	"testing"

	"turnpike/api"
	"turnpike/code"
	"turnpike/image"
	"turnpike/mtrie"
)

var (
	families = []int{32, 128}
	// noFamilies are numbers some of which end in the bits of a family.
	noFamilies = []int{math.MinInt, math.MinInt + 32, -128, -32, -1, 0, 1, 8, 20, 31, 33, 64, 80, 127, 129, 160, 255, 256, 256 + 32, 256 + 128, 1<<16 + 32, 1<<32 + 32, 1<<32 + 128, math.MaxInt}
)

// counter makes numbers without a pattern, always the same ones.
func counter() func() uint64 {
	x := uint64(0x9e3779b97f4a7c15)
	return func() uint64 {
		x ^= x << 13
		x ^= x >> 7
		x ^= x << 17
		return x
	}
}

// upTo is a number from 0 on below most, without a pattern.
func upTo(next func() uint64, most int) int {
	return int(next() >> 11 % uint64(most))
}

// one is one of a list, without a pattern.
func one[T any](next func() uint64, l ...T) T {
	return l[upTo(next, len(l))]
}

func someBytes(next func() uint64, size int) []byte {
	b := make([]byte, size)
	for i := range b {
		b[i] = byte(next() >> 11)
	}
	return b
}

func intOf(s string) int {
	n, err := strconv.Atoi(s)
	if err != nil {
		panic("no number: " + s)
	}
	return n
}

// wordsOf is the words of a text: x, j, r and a number are OExtract, OJump, OReturn of it, right or not; i is OIndex, with the words of its map behind it, a sign : ahead of each; a sign # stands ahead of a word as it is.
func wordsOf(text string) []uint32 {
	var l []uint32
	for _, s := range strings.Fields(text) {
		parts := strings.Split(s[1:], ":")
		if s[0] == '#' {
			parts = []string{"0", s[1:]}
		} else {
			l = append(l, uint32(1+strings.IndexByte("xijr", s[0]))<<24|uint32(intOf(parts[0])))
		}
		for _, p := range parts[1:] {
			w, err := strconv.ParseUint(p, 16, 32)
			if err != nil || len(p) != 8 {
				panic("no word: " + p)
			}
			l = append(l, uint32(w))
		}
	}
	return l
}

// bytesOf is words as code.
func bytesOf(words []uint32) []byte {
	var b []byte
	for _, w := range words {
		b = binary.BigEndian.AppendUint32(b, w)
	}
	return b
}

// codeOf is the code of a text of words.
func codeOf(text string) []byte {
	return bytesOf(wordsOf(text))
}

// wordsIn is the words of code.
func wordsIn(b []byte) []uint32 {
	var l []uint32
	for ; len(b) >= 4; b = b[4:] {
		l = append(l, binary.BigEndian.Uint32(b))
	}
	return l
}

// short is bytes for a report: of long ones the first.
func short(b []byte) string {
	return strconv.Itoa(len(b)) + " bytes, " + hex.EncodeToString(b[:min(len(b), 200)])
}

// nodesOf is the list of a text: nodes with a sign ; between two, of each its bits, and its runs: the first slot, a sign = and a next hop, or a sign > and a node's number.
func nodesOf(text string) []api.Node {
	var l []api.Node
	for _, part := range strings.Split(text, ";") {
		words := strings.Fields(part)
		n := api.Node{Bits: intOf(words[0])}
		for _, s := range words[1:] {
			from, to, kid := strings.Cut(s, ">")
			if !kid {
				from, to, _ = strings.Cut(s, "=")
			}
			n.Runs = append(n.Runs, api.Run{From: api.Word{Lo: uint64(intOf(from))}, Kid: kid, N: intOf(to)})
		}
		l = append(l, n)
	}
	return l
}

// textOf is the text of nodes; of a long one its begin.
func textOf(l []api.Node) string {
	var parts []string
	for _, n := range l[:min(len(l), 100)] {
		s := strconv.Itoa(n.Bits)
		for _, r := range n.Runs[:min(len(n.Runs), 100)] {
			s += " " + strconv.FormatUint(r.From.Lo, 10) + map[bool]string{false: "=", true: ">"}[r.Kid] + strconv.Itoa(r.N)
		}
		parts = append(parts, s)
	}
	s := strings.Join(parts, "; ")
	return s[:min(len(s), 1000)]
}

// like tells whether two lists are of the same nodes.
func like(a, b []api.Node) bool {
	return slices.EqualFunc(a, b, func(x, y api.Node) bool { return x.Bits == y.Bits && slices.Equal(x.Runs, y.Runs) })
}

// mapOf is a map of so many bits that is set at these slots.
func mapOf(bits int, slots ...int) []uint32 {
	m := make([]uint32, max(1, 1<<bits/32))
	for _, s := range slots {
		m[s/32] |= 1 << (31 - s%32)
	}
	return m
}

// laid is the code of nodes, as P1603 says it, but one behind the other in the order in which they stand in the list.
func laid(l []api.Node) []byte {
	if l[0].Bits == 0 {
		return bytesOf([]uint32{4<<24 | uint32(l[0].Runs[0].N)})
	}
	var places []int
	words := 0
	for _, n := range l {
		places = append(places, words)
		words += 2 + len(mapOf(n.Bits)) + len(n.Runs)
	}
	out := make([]uint32, 0, words)
	for _, n := range l {
		var slots []int
		for _, r := range n.Runs {
			slots = append(slots, int(r.From.Lo))
		}
		out = append(out, 1<<24|uint32(n.Bits), 2<<24|uint32(n.Bits))
		out = append(out, mapOf(n.Bits, slots...)...)
		for _, r := range n.Runs {
			if r.Kid {
				out = append(out, 3<<24|uint32(places[r.N]-len(out)))
			} else {
				out = append(out, 4<<24|uint32(r.N))
			}
		}
	}
	return bytesOf(out)
}

// said is an entry of a block by the chapter's words: where it stands, its instruction.
type said struct {
	at int
	i  api.Instr
}

// same tells whether two entries say the same answer, or jump to one place.
func (s said) same(o said) bool {
	if s.i.Op != o.i.Op {
		return false
	}
	return s.i.Op == api.OReturn && s.i.N == o.i.N || s.i.Op == api.OJump && s.at+s.i.N == o.at+o.i.N
}

// piece is a block by the chapter's words.
type piece struct {
	at, bits int
	set      []int
	entries  []said
}

// piecesBy reads code as blocks by the words of P1801's point 3: the blocks, or the word at which it is none, and why.
func piecesBy(b []byte) (l []piece, at int, e api.Errno) {
	should := func(ops ...int) (i api.Instr) {
		size := 0
		if i, size, e = code.Decode(b, at); e == api.OK && !slices.Contains(ops, i.Op) {
			e = api.ErrOp
		}
		if e == api.OK {
			at += size
		}
		return i
	}
	for 4*at < len(b) {
		p := piece{at: at}
		if p.bits = should(api.OExtract).N; e != api.OK {
			return nil, at, e
		}
		here := at
		index := should(api.OIndex)
		if e != api.OK {
			return nil, at, e
		}
		if index.N != p.bits {
			return nil, here, api.ErrMap
		}
		for place := range 32 * len(index.Map) {
			if index.Map[place/32]<<(place%32)>>31 == 1 {
				p.set = append(p.set, place)
			}
		}
		for k := range p.set {
			x := said{at: at}
			if x.i = should(api.OReturn, api.OJump); e != api.OK {
				return nil, at, e
			}
			if k > 0 && x.same(p.entries[k-1]) {
				return nil, x.at, api.ErrMap
			}
			p.entries = append(p.entries, x)
		}
		l = append(l, p)
	}
	return l, 0, api.OK
}

// codeBy is Code by P1801's words: what a way meets at most is asked backwards, from a block to those that lead to it.
func codeBy(family int, b []byte) (int, int, api.Errno) {
	if !slices.Contains(families, family) {
		return 0, 0, api.ErrFamily
	}
	if len(b) == 0 || len(b)%4 != 0 {
		return 0, 0, api.ErrCut
	}
	if b[0] == 4 && b[1] == 0 {
		if len(b) > 4 {
			return 0, 1, api.ErrUnused
		}
		return 0, 0, api.OK
	}
	l, at, e := piecesBy(b)
	if e != api.OK {
		return 0, at, e
	}
	from := map[int][]int{}
	for _, p := range l {
		from[p.at] = nil
	}
	for k, p := range l {
		for _, x := range p.entries {
			if x.i.Op != api.OJump {
				continue
			}
			to := x.at + x.i.N
			if _, ok := from[to]; !ok {
				return 0, x.at, api.ErrJump
			}
			from[to] = append(from[to], k)
		}
	}
	for _, p := range l[1:] {
		if len(from[p.at]) == 0 {
			return 0, p.at, api.ErrUnused
		}
	}
	return waysBy(family, l, from)
}

// waysBy is the end of it: the depth, or the first block at which there are too few bits.
func waysBy(family int, l []piece, from map[int][]int) (int, int, api.Errno) {
	bits, blocks := make([]int, len(l)), make([]int, len(l))
	for k, p := range l {
		for _, f := range from[p.at] {
			bits[k], blocks[k] = max(bits[k], bits[f]), max(blocks[k], blocks[f])
		}
		bits[k] += p.bits
		blocks[k]++
	}
	for k, p := range l {
		if bits[k] > family {
			return 0, p.at, api.ErrBits
		}
	}
	return slices.Max(blocks), 0, api.OK
}

// treeBy is Tree by P1803's words.
func treeBy(family int, b []byte) ([]api.Node, api.Errno) {
	if _, _, e := codeBy(family, b); e != api.OK {
		return nil, e
	}
	if len(b) == 4 {
		return []api.Node{{Runs: []api.Run{{N: int(b[2])*256 + int(b[3])}}}}, api.OK
	}
	pieces, _, _ := piecesBy(b)
	number := map[int]int{}
	for k, p := range pieces {
		number[p.at] = k
	}
	var l []api.Node
	for _, p := range pieces {
		n := api.Node{Bits: p.bits}
		for k, x := range p.entries {
			r := api.Run{From: api.Word{Lo: uint64(p.set[k])}, N: x.i.N}
			if x.i.Op == api.OJump {
				r.Kid, r.N = true, number[x.at+x.i.N]
			}
			n.Runs = append(n.Runs, r)
		}
		l = append(l, n)
	}
	return l, api.OK
}

// imageBy is Image by P1802's words.
func imageBy(b []byte) (api.Header, api.Errno) {
	h, c, e := image.Open(b, 0)
	if e != api.OK {
		return api.Header{}, e
	}
	if len(b) != 16+4*h.Words {
		return api.Header{}, api.ErrCut
	}
	depth, _, e := codeBy(h.W, c)
	if e != api.OK {
		return api.Header{}, e
	}
	if depth != h.Depth {
		return api.Header{}, api.ErrSteps
	}
	return h, api.OK
}

// isTold asks that Code tells just what is wanted.
func isTold(t *testing.T, family int, b []byte, depth, at int, want api.Errno) {
	t.Helper()
	if d, w, e := Code(family, b); d != depth || w != at || e != want {
		t.Fatalf("P1801: Code(%d, %s): %d, %d, %v; want %d, %d, %v", family, short(b), d, w, e, depth, at, want)
	}
}

// isRefused asks for an error at a word.
func isRefused(t *testing.T, family int, b []byte, at int, want api.Errno) {
	t.Helper()
	isTold(t, family, b, 0, at, want)
}

// isToldByTheWords asks Code by the chapter's words: its error.
func isToldByTheWords(t *testing.T, family int, b []byte) api.Errno {
	t.Helper()
	depth, at, e := codeBy(family, b)
	isTold(t, family, b, depth, at, e)
	return e
}

// treeOf asks for what Tree tells of code that may be run.
func treeOf(t *testing.T, family int, b []byte) []api.Node {
	t.Helper()
	l, e := Tree(family, b)
	if e != api.OK {
		t.Fatalf("P1803: Tree(%d, %s): %v", family, short(b), e)
	}
	return l
}

// headerOf is the right one of a family and a depth, for code of whole words.
func headerOf(family, depth int, code []byte) api.Header {
	steps := 3 * depth
	if depth == 0 {
		steps = 1
	}
	return api.Header{W: family, Depth: depth, Steps: steps, Words: len(code) / 4}
}

// packed is the image of code, right or not, by a family and a depth.
func packed(family, depth int, code []byte) []byte {
	b, e := image.Pack(headerOf(family, depth, code), code)
	if e != api.OK {
		panic(e.Error())
	}
	return b
}

// isRight tells whether a list is, by mtrie.Check.
func isRight(family int, l []api.Node) bool {
	_, e := mtrie.Check(family, l)
	return e == api.OK
}

// chain is nodes of these bits, each of which but the last one leads to the next.
func chain(bits ...int) []api.Node {
	var l []api.Node
	for i, n := range bits {
		first := api.Run{Kid: true, N: i + 1}
		if i == len(bits)-1 {
			first = api.Run{N: 1}
		}
		l = append(l, api.Node{Bits: n, Runs: []api.Run{first, {From: api.Word{Lo: 1}, N: 7}}})
	}
	return l
}

// someChain is one of about 32 bits.
func someChain(next func() uint64) []api.Node {
	var bits []int
	for sum := 0; sum < 24+upTo(next, 12); sum += bits[len(bits)-1] {
		bits = append(bits, 1+upTo(next, 9))
	}
	return chain(bits...)
}

// steps are so many bits one by one.
func steps(bits int) []int {
	return slices.Repeat([]int{1}, bits)
}

// doubling is a list of so many nodes of 2 bits, each of which leads to the next one twice: more ways than anybody could go down.
func doubling(size int) []api.Node {
	var l []api.Node
	for i := range size - 1 {
		l = append(l, api.Node{Bits: 2, Runs: []api.Run{{Kid: true, N: i + 1}, {From: api.Word{Lo: 1}, N: 7}, {From: api.Word{Lo: 2}, Kid: true, N: i + 1}}})
	}
	return append(l, nodesOf("2 0=1")...)
}

// edges are right lists for both families at the edges that the document names.
func edges() [][]api.Node {
	var l [][]api.Node
	for _, text := range []string{
		"0 0=0", "0 0=9", "0 0=65535",
		// One block alone; maps at the edges of words.
		"1 0=0", "1 0=5 1=0", "1 0=1 1=2", "2 0=1 1=2 2=1 3=2", "4 0=1 15=2", "5 0=1 31=2", "6 0=1 31=2 32=3 63=4", "7 0=1 127=2", "24 0=5", "24 0=5 16777215=6", "20 0=1 1=2 2=1 1048575=2",
		// Several, in the order of the list and out of it.
		"1 0>1; 1 0=1", "1 0>1 1=0; 1 0=1 1=65535", "1 0=7 1>1; 6 0=1 33=2", "1 0>1 1>2; 1 0=5; 1 0=6", "1 0>2 1>1; 1 0=5; 1 0=6", "2 0>3 1>2 2>1; 1 0=1; 1 0=2; 1 0=3", "2 0>1 1>2 2>3; 1 0=1; 1 0=2; 1 0=3",
		// Led to more than once: from one block, from several, from blocks that lead to one another.
		"2 0>1 1=3 2>1; 1 0=1", "1 0>1 1>2; 1 0>2 1=1; 1 0=3", "1 0>2 1>1; 1 0>2 1=1; 1 0=3", "1 0>1 1>2; 1 0>3 1=1; 1 0>3 1=2; 1 0=4", "2 0>3 1>1 2>2; 1 0>3; 1 0=1; 1 0=4 1=9", "2 0>3 1=0 2>1; 1 0>2 1>3; 1 0=1 1=0; 1 0=2 1=0",
		"2 0>4 1>3 2>2 3>1; 1 0>4 1=1; 1 0>4 1=2; 1 0>4 1=3; 1 0=9",
		// Equal ones.
		"1 0>1 1>2; 1 0=5 1=6; 1 0=5 1=6",
		// Far behind one another.
		"1 0>1 1>2; 14 0=1 16383=2; 14 0>3 9=1; 17 0=1", "8 0>1 255>2; 20 0=1; 22 0=2",
		// As many bits as there are.
		"8 0>1; 8 0>2; 8 0>3; 8 0=9", "20 0>1 9=1; 12 0=1", "24 0>1; 8 0=1 255=2",
	} {
		l = append(l, nodesOf(text))
	}
	return append(l, chain(steps(32)...), doubling(16))
}

// someNode makes a node of a list without a pattern, which leads behind its own number, to numbers below size.
func someNode(next func() uint64, number, size, leads int) api.Node {
	n := api.Node{Bits: 1 + upTo(next, one(next, 2, 3, 7, 12))}
	slots := []int{0, 1<<n.Bits - 1}
	for range upTo(next, 9) {
		slots = append(slots, one(next, upTo(next, 1<<n.Bits), min(upTo(next, 66), 1<<n.Bits-1)))
	}
	slices.Sort(slots)
	for _, s := range slices.Compact(slots) {
		r := api.Run{From: api.Word{Lo: uint64(s)}, N: one(next, 0, 1, 258, 65535)}
		if number < size-1 && upTo(next, 4) <= leads {
			r.Kid, r.N = true, number+1+upTo(next, size-1-number)
		}
		n.Runs = append(n.Runs, r)
	}
	n.Runs = slices.CompactFunc(n.Runs, func(a, b api.Run) bool { return a.Kid == b.Kid && a.N == b.N })
	return n
}

// someList makes a right list for a family without a pattern, of nodes in whatever order; some are led to more than once.
func someList(next func() uint64, family int) []api.Node {
	for {
		size, leads := 1+upTo(next, 12), 1+upTo(next, 3)
		var l []api.Node
		for i := range size {
			l = append(l, someNode(next, i, size, leads))
		}
		if l = shuffled(next, reached(l)); isRight(family, l) {
			return l
		}
	}
}

// reached is a list without the nodes to which no way leads.
func reached(l []api.Node) []api.Node {
	met := map[int]bool{0: true}
	for i, n := range l {
		for _, r := range n.Runs {
			if r.Kid && met[i] {
				met[r.N] = true
			}
		}
	}
	return renumbered(l, slices.Sorted(maps.Keys(met)))
}

// renumbered is the nodes of these numbers, one behind the other.
func renumbered(l []api.Node, order []int) []api.Node {
	var out []api.Node
	for _, i := range order {
		n := api.Node{Bits: l[i].Bits, Runs: slices.Clone(l[i].Runs)}
		for k, r := range n.Runs {
			if r.Kid {
				n.Runs[k].N = slices.Index(order, r.N)
			}
		}
		out = append(out, n)
	}
	return out
}

// shuffled is the same nodes in another order in which each stands ahead of those to which it leads.
func shuffled(next func() uint64, l []api.Node) []api.Node {
	order := []int{0}
	for len(order) < len(l) {
		i := upTo(next, len(l))
		ready := !slices.Contains(order, i)
		for k, n := range l {
			ready = ready && (slices.Contains(order, k) || !slices.ContainsFunc(n.Runs, func(r api.Run) bool { return r.Kid && r.N == i }))
		}
		if ready {
			order = append(order, i)
		}
	}
	return renumbered(l, order)
}

// samples are right lists for a family, of all kinds.
func samples(family int) [][]api.Node {
	next := counter()
	l := edges()
	if family == 128 {
		l = append(l, chain(steps(128)...), doubling(64), chain(24, 20, 20, 20, 20, 20, 4))
	}
	for range 1500 {
		l = append(l, someList(next, family))
	}
	return l
}

// spoil changes code in one place, so that it may be such that it may not be run.
func spoil(next func() uint64, b []byte) []byte {
	l := wordsIn(b)
	at := upTo(next, len(l))
	switch upTo(next, 12) {
	case 0:
		l[at] = one[uint32](next, 0, 0x01000000, 0x01000001, 0x01000002, 0x01000019, 0x02000001, 0x02000002, 0x03000000, 0x03000001, 0x03000004, 0x04000000, 0x04010000, 0x05000000, 0x80000000, 0xc0000000, 0xffffffff)
	case 1:
		l[at] ^= 1 << upTo(next, 32)
	case 2:
		l[at]++
	case 3:
		l[at]--
	case 4:
		l = slices.Delete(l, at, at+1)
	case 5:
		l = slices.Insert(l, at, l[upTo(next, len(l))])
	case 6:
		l = l[:at]
	case 7:
		l = append(l, l[at:]...)
	case 8:
		l[at] = l[max(at-1, 0)]
	case 9:
		l = append(l, wordsOf(one(next, "x1 i1:80000000 r1", "r1", "x1", "j1", "x2 i2:c0000000 r1 r2"))...)
	case 10:
		l[at] = one(next, uint32(0x03000000), 0x04000000) + uint32(upTo(next, 2*len(l)))
	case 11:
		return bytesOf(l)[:4*len(l)-1-upTo(next, min(4*len(l)-1, 7))]
	}
	return bytesOf(l)
}

// guarded is a copy of a row with room behind it, and a function that tells whether both are as they were.
func guarded(b []byte) (handed []byte, asItWas func() bool) {
	all := append(slices.Clone(b), 0xde, 0xad, 0xbe, 0xef, 0xde, 0xad, 0xbe, 0xef)
	was := slices.Clone(all)
	return all[:len(b)], func() bool { return slices.Equal(all, was) }
}

// overwrite makes each run of a tree another one, in its spare room too, and then each node.
func overwrite(l []api.Node) {
	l = l[:cap(l)]
	for i := range l {
		runs := l[i].Runs[:cap(l[i].Runs)]
		for k := range runs {
			runs[k] = api.Run{From: api.Word{Hi: 7, Lo: 7}, Kid: !runs[k].Kid, N: runs[k].N + 1}
		}
		l[i] = api.Node{Bits: l[i].Bits + 1, Runs: []api.Run{{N: -7}}}
	}
}

func TestSamplesAreSound(t *testing.T) {
	if s := hex.EncodeToString(codeOf("x1 i6:80000000:00000001 j258 r65535 #deadbeef")); s != "01000001"+"02000006"+"80000000"+"00000001"+"03000102"+"0400ffff"+"deadbeef" {
		t.Errorf("code of a text: %s", s)
	}
	if b := laid(nodesOf("1 0>2 1>1; 2 0=5 3=0; 6 0=6 32=7 63=8")); !slices.Equal(b, codeOf("x1 i1:c0000000 j7 j1 x2 i2:90000000 r5 r0 x6 i6:80000000:80000001 r6 r7 r8")) {
		t.Errorf("code of nodes: %s", short(b))
	}
	for _, family := range families {
		depths, unlike := map[int]int{}, 0
		for _, l := range samples(family) {
			depth, e := mtrie.Check(family, l)
			if e != api.OK {
				t.Fatalf("%s is not right: %v", textOf(l), e)
			}
			b := laid(l)
			if d, at, e := codeBy(family, b); d != depth || at != 0 || e != api.OK {
				t.Fatalf("the code of %s: %d, %d, %v, want the depth %d", textOf(l), d, at, e, depth)
			}
			if tree, e := treeBy(family, b); e != api.OK || !like(tree, l) {
				t.Fatalf("the tree of %s is %s, %v", textOf(l), textOf(tree), e)
			}
			depths[depth]++
			if d, _, _ := codeBy(160-family, b); d != depth {
				unlike++
			}
		}
		if len(depths) < 8 || depths[1] < 50 || depths[3] < 50 || family == 128 && unlike < 30 {
			t.Errorf("by %d: depths %v, %d are refused by the other family", family, depths, unlike)
		}
	}
}
