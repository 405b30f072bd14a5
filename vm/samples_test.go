package vm

import (
	"encoding/binary"
	"encoding/hex"
	"math"
	mathbits "math/bits"
	"slices"
	"strconv"
	"strings"
	"testing"

	"turnpike/api"
)

var (
	families = []int{32, 128}
	// noFamilies are numbers some of which end in the bits of a family.
	noFamilies = []int{math.MinInt, math.MinInt + 32, -128, -32, -1, 0, 1, 3, 24, 31, 33, 64, 127, 129, 160, 255, 256, 256 + 32, 256 + 128, 1<<16 + 32, 1<<32 + 32, 1<<32 + 128, math.MaxInt}
	// fuels are those of the edges; no run of the samples takes a thousand steps.
	fuels = []int{math.MinInt, math.MinInt + 1, -1000, -1, 0, 1, 2, 3, 4, 5, 6, 7, 31, 32, 33, 34, 127, 128, 129, 130, api.MaxFuel, 1000, 1 << 32, math.MaxInt - 1, math.MaxInt}
)

// counter makes numbers without a pattern, always the same ones.
func counter() func() uint64 {
	x := uint64(0x9e3779b97f4a7c15)
	return func() uint64 {
		x ^= x << 13
		x ^= x >> 7
		x ^= x << 17
		return x
	}
}

// upTo is a number from 0 on below most, without a pattern.
func upTo(next func() uint64, most int) int {
	return int(next() >> 11 % uint64(most))
}

// one is one of a list, without a pattern.
func one[T any](next func() uint64, l ...T) T {
	return l[upTo(next, len(l))]
}

// wordsOf is the words of a text: x, i, j, r and a number are the first words of OExtract, OIndex, OJump, OReturn of it, right or not; words of a map stand behind that of an i, a sign : ahead of each; a sign # stands ahead of a word as it is.
func wordsOf(text string) []uint32 {
	var l []uint32
	for _, s := range strings.Fields(text) {
		parts := strings.Split(s[1:], ":")
		if s[0] == '#' {
			parts = []string{"0", s[1:]}
		} else {
			n, err := strconv.Atoi(parts[0])
			if err != nil {
				panic("no number: " + s)
			}
			l = append(l, uint32(1+strings.IndexByte("xijr", s[0]))<<24|uint32(n))
		}
		for _, p := range parts[1:] {
			w, err := strconv.ParseUint(p, 16, 32)
			if err != nil || len(p) != 8 {
				panic("no word: " + p)
			}
			l = append(l, uint32(w))
		}
	}
	return l
}

// bytesOf is words as code.
func bytesOf(words []uint32) []byte {
	var b []byte
	for _, w := range words {
		b = binary.BigEndian.AppendUint32(b, w)
	}
	return b
}

// codeOf is the code of a text of words.
func codeOf(text string) []byte {
	return bytesOf(wordsOf(text))
}

// times is a text so often, one behind the other.
func times(n int, text string) string {
	return strings.Repeat(text+" ", n)
}

// short is bytes for a report: of long ones the first.
func short(b []byte) string {
	return strconv.Itoa(len(b)) + " bytes, " + hex.EncodeToString(b[:min(len(b), 300)])
}

// address is the word whose first 32 bits these are.
func address(bits uint32) api.Word {
	return api.Word{Hi: uint64(bits) << 32}
}

// bitOf is a bit of a word.
func bitOf(w api.Word, i int) int {
	if i < 64 {
		return int(w.Hi >> (63 - i) & 1)
	}
	return int(w.Lo >> (127 - i) & 1)
}

// instr is an instruction as it stands in code: where its words end, and which bytes its map is.
type instr struct {
	op, n, end int
	slots      []byte
}

// isSet tells whether a place of the map is.
func (i instr) isSet(place int) bool {
	return i.slots[place/8]>>(7-place%8)&1 == 1
}

// readBy reads the instruction at a word by the words of chapter 14.
func readBy(b []byte, at int) (instr, api.Errno) {
	if at > len(b)/4-1 {
		return instr{}, api.ErrBounds
	}
	c := b[4*at : 4*at+4]
	i := instr{op: int(c[0]), n: int(c[1])<<16 | int(c[2])<<8 | int(c[3]), end: at + 1}
	switch {
	case i.op < 1 || i.op > 4, i.op != 3 && c[1] != 0, i.op < 3 && c[2] != 0:
		return instr{}, api.ErrOp
	case i.n == 0 && i.op != 4, i.n > 24 && i.op < 3:
		return instr{}, api.ErrArg
	case i.op != 2:
		return i, api.OK
	}
	i.end += max(1, 1<<i.n/32)
	if i.end > len(b)/4 {
		return instr{}, api.ErrBounds
	}
	i.slots = b[4*at+4 : 4*i.end]
	for place := 1 << i.n; place < 32; place++ {
		if i.isSet(place) {
			return instr{}, api.ErrMap
		}
	}
	if !i.isSet(0) {
		return instr{}, api.ErrMap
	}
	return i, api.OK
}

// life is a run by the words of the chapter: what a machine tells ahead of the first step and behind each, where it stood then; and what it tells at its end.
type life struct {
	so    []api.Result
	at    []int
	end   api.Result
	reads map[int]bool // the words that it reads
}

// lifeOf is the run of code for a word.
func lifeOf(family int, b []byte, w api.Word) life {
	l := life{so: []api.Result{{}}, at: []int{0}, reads: map[int]bool{}}
	if family != 32 && family != 128 {
		l.end.Err = api.ErrFamily
		return l
	}
	for i := family; i < 128; i++ {
		if bitOf(w, i) == 1 {
			l.end.Err = api.ErrWide
			return l
		}
	}
	for l.end = (api.Result{}); l.step(family, b, w); {
	}
	return l
}

// step does the next one; false, if the run ends.
func (l *life) step(family int, b []byte, w api.Word) bool {
	r, at := l.so[len(l.so)-1], l.at[len(l.at)-1]
	i, e := readBy(b, at)
	l.read(b, at)
	ahead := instr{}
	if k := len(l.at) - 2; k >= 0 {
		ahead, _ = readBy(b, l.at[k])
	}
	switch {
	case e != api.OK:
	case i.op == 1 && r.Bits+i.n > family:
		e = api.ErrBits
	case i.op == 1:
		r.Bits += i.n
		r.Extracts++
		at++
	case i.op == 2 && (ahead.op != 1 || ahead.n != i.n):
		e = api.ErrMap
	case i.op == 2:
		number := 0
		for k := r.Bits - i.n; k < r.Bits; k++ {
			number = 2*number + bitOf(w, k)
		}
		at = i.end - 1
		for place := range number + 1 {
			if i.isSet(place) {
				at++
			}
		}
		r.Indexes++
	case i.op == 3:
		at += i.n
	}
	if e != api.OK {
		l.end = r
		l.end.Err = e
		return false
	}
	r.Steps++
	if i.op == 4 {
		r.Hop = i.n
		l.end = r
	}
	l.so, l.at = append(l.so, r), append(l.at, at)
	return i.op != 4
}

// read notes which words are read where it stands.
func (l *life) read(b []byte, at int) {
	if at >= len(b)/4 {
		return
	}
	l.reads[at] = true
	c := b[4*at : 4*at+4]
	if c[0] == 2 && c[1] == 0 && c[2] == 0 && 1 <= c[3] && c[3] <= 24 {
		for k := range max(1, 1<<c[3]/32) {
			l.reads[at+1+k] = true
		}
	}
}

// isFirst tells whether it is ended by what comes ahead of the first step.
func (l life) isFirst() bool {
	return l.end.Err == api.ErrFamily || l.end.Err == api.ErrWide
}

// enough is the least fuel by which Run tells its end: an error is met where one more step is begun.
func (l life) enough() int {
	if l.isFirst() {
		return math.MinInt
	}
	if l.end.Err == api.OK {
		return l.end.Steps
	}
	return l.end.Steps + 1
}

// by is what Run tells with so much fuel.
func (l life) by(fuel int) api.Result {
	if fuel >= l.enough() {
		return l.end
	}
	r := l.so[max(0, fuel)]
	r.Err = api.ErrFuel
	return r
}

// isRun asks that Run tells just what is wanted.
func isRun(t *testing.T, family int, b []byte, w api.Word, fuel int, want api.Result) {
	t.Helper()
	if r := Run(family, b, w, fuel); r != want {
		t.Fatalf("P1901: Run(%d, %s, %x, %d): %+v; want %+v", family, short(b), w, fuel, r, want)
	}
}

// isStepped asks that a machine tells step by step what is wanted, and then for ever its end.
func isStepped(t *testing.T, family int, b []byte, w api.Word, l life) {
	t.Helper()
	m := New(family, b, w)
	for k := range l.at {
		want := l.so[k]
		if l.isFirst() {
			want = l.end
		}
		if m.Place() != l.at[k] || m.Result() != want {
			t.Fatalf("P1902: %d, %s, %x: behind %d steps %d, %+v; want %d, %+v", family, short(b), w, k, m.Place(), m.Result(), l.at[k], want)
		}
		if more := k+1 < len(l.at); m.Step() != more {
			t.Fatalf("P1902: %d, %s, %x: behind %d steps Step tells %v", family, short(b), w, k, !more)
		}
	}
	for range 3 {
		if m.Place() != l.at[len(l.at)-1] || m.Result() != l.end {
			t.Fatalf("P1902: %d, %s, %x: at its end %d, %+v; want %d, %+v", family, short(b), w, m.Place(), m.Result(), l.at[len(l.at)-1], l.end)
		}
		if m.Step() {
			t.Fatalf("P1902: %d, %s, %x: a step behind its end", family, short(b), w)
		}
	}
}

// isRunByTheWords asks Run, by fuels around what is enough, and a machine, by the chapter's words: what they tell at the end.
func isRunByTheWords(t *testing.T, family int, b []byte, w api.Word) life {
	t.Helper()
	l := lifeOf(family, b, w)
	for _, fuel := range []int{-1, 0, 1, l.end.Steps / 2, l.end.Steps - 1, l.end.Steps, l.end.Steps + 1, l.end.Steps + 2, len(b) / 4, len(b)/4 + 1, api.MaxFuel, math.MaxInt} {
		isRun(t, family, b, w, fuel, l.by(fuel))
	}
	isStepped(t, family, b, w, l)
	return l
}

// someAddress is one of a family, without a pattern; of some most bits are 0, or are 1.
func someAddress(next func() uint64, family int) api.Word {
	w := api.Word{Hi: next(), Lo: next()}
	switch upTo(next, 6) {
	case 0:
		w = api.Word{Hi: next() & next() & next(), Lo: next() & next() & next()}
	case 1:
		w = api.Word{Hi: next() | next() | next(), Lo: next() | next() | next()}
	case 2:
		w = api.Word{}
	case 3:
		w = api.Word{Hi: math.MaxUint64, Lo: math.MaxUint64}
	}
	if family == 32 {
		w = api.Word{Hi: w.Hi >> 32 << 32}
	}
	return w
}

// someMap is a map of so many bits, place 0 of which is set; seldom it is not.
func someMap(next func() uint64, bits int) []uint32 {
	m := make([]uint32, max(1, 1<<bits/32))
	for range 1 + upTo(next, 2*len(m)+2) {
		place := upTo(next, 1<<bits)
		m[place/32] |= 1 << (31 - place%32)
	}
	if m[0] |= 1 << 31; upTo(next, 40) == 0 {
		m[0] ^= 1 << upTo(next, 32)
	}
	return m
}

// someWords are those of one instruction, or of an extract and an index; seldom of none.
func someWords(next func() uint64) []uint32 {
	bits := 1 + upTo(next, one(next, 2, 5, 9, 24))
	switch upTo(next, 12) {
	case 0:
		return []uint32{1<<24 | uint32(bits)}
	case 1, 2:
		return []uint32{3<<24 | uint32(1+upTo(next, one(next, 1, 3, 12)))}
	case 3:
		return []uint32{4<<24 | uint32(upTo(next, 65536))}
	case 4:
		return []uint32{one[uint32](next, 0, 0x01000000, 0x01000019, 0x01000100, 0x02000000, 0x02000019, 0x03000000, 0x04010000, 0x05000000, 0x80000000, 0xffffffff, uint32(next()))}
	case 5:
		bits = min(bits, 7)
		return append([]uint32{2<<24 | uint32(bits)}, someMap(next, bits)...)
	}
	bits = min(bits, 9)
	l := append([]uint32{1<<24 | uint32(bits), 2<<24 | uint32(bits)}, someMap(next, bits)...)
	for range upTo(next, 5) {
		l = append(l, one(next, uint32(3<<24), 3<<24, 4<<24)|uint32(1+upTo(next, 9)))
	}
	return l
}

// someCode is code without a pattern, some steps of which can be done; its last word may be cut.
func someCode(next func() uint64) []byte {
	var l []uint32
	for range upTo(next, 30) {
		l = append(l, someWords(next)...)
	}
	b := bytesOf(l)
	if upTo(next, 5) == 0 {
		b = b[:len(b)-min(len(b), 1+upTo(next, 3))]
	}
	return b
}

// someChain is code of many blocks, in which most entries jump behind their own; so that there may be too few bits at its end.
func someChain(next func() uint64) []byte {
	var l []uint32
	for range 1 + upTo(next, 60) {
		bits := 1 + upTo(next, one(next, 1, 2, 6))
		m := someMap(next, bits)
		entries := 0
		for _, w := range m {
			entries += mathbits.OnesCount32(w)
		}
		l = append(append(l, 1<<24|uint32(bits), 2<<24|uint32(bits)), m...)
		for k := range entries {
			l = append(l, 3<<24|uint32(entries-k))
			if upTo(next, 40) == 0 {
				l[len(l)-1] = 4<<24 | uint32(upTo(next, 65536))
			}
		}
		for range upTo(next, 3) {
			l = append(l, one[uint32](next, 3<<24|1, 1<<24|1))
		}
	}
	return bytesOf(append(l, 4<<24|9))
}

// edges are codes that end in all ways there are.
func edges() []string {
	return []string{
		"", "r0", "r9", "r65535", "#04010000", "#05000000", "x0", "x25", "x1", "x24", "j1", "j2", "j3 r1 r2 r3", "i1:c0000000", "i1", "i6:80000000", "i1:40000000", "i1:a0000000",
		"x1 i1:c0000000 r5 r0", "x1 i1:80000000 r5 r0", "x3 i3:a8000000 r1 r2 r3", "x1 i2:c0000000 r1 r2", "x2 i1:c0000000 r1 r2", "x1 j1 i1:c0000000 r1 r2", "x1 i1:80000000 i1:c0000000 r1 r2", "x1 x1 i1:c0000000 r1 r2", "x1 i1:c0000000 j2 r7 x2 i2:a0000000 r1 r2",
		times(31, "x1") + "r3", times(32, "x1") + "r3", times(33, "x1") + "r3", times(128, "x1") + "r3", times(129, "x1") + "r3", "x24 x8 r1", "x24 x8 x1 r1", "x24 x9 r1", times(5, "x24") + "x8 r1", times(5, "x24") + "x9 r1", times(5, "x24") + "x8 x1 r1",
		times(40, "j1") + "r1", times(40, "j2") + "r1", times(9, "x1 j1"), times(9, "x1 i1:80000000"), times(9, "x1 i1:80000000 j2 r1") + "r2", times(140, "x1 i1:80000000"),
	}
}

// samples are codes of all kinds.
func samples() [][]byte {
	next := counter()
	var l [][]byte
	for _, text := range edges() {
		l = append(l, codeOf(text))
	}
	for range 3000 {
		l = append(l, someCode(next), someCode(next), someChain(next))
	}
	return l
}

// guarded is a copy of a row with room behind it, and a function that tells whether both are as they were.
func guarded(b []byte) (handed []byte, asItWas func() bool) {
	all := append(slices.Clone(b), 0xde, 0xad, 0xbe, 0xef, 0xde, 0xad, 0xbe, 0xef)
	was := slices.Clone(all)
	return all[:len(b)], func() bool { return slices.Equal(all, was) }
}

func TestSamplesAreSound(t *testing.T) {
	if s := hex.EncodeToString(codeOf("x1 i6:80000000:00000001 j258 r65535 #deadbeef")); s != "01000001"+"02000006"+"80000000"+"00000001"+"03000102"+"0400ffff"+"deadbeef" {
		t.Errorf("code of a text: %s", s)
	}
	l := lifeOf(32, codeOf("x1 i1:c0000000 j2 r7 x2 i2:a0000000 r1 r2"), address(0x60000000))
	if !slices.Equal(l.at, []int{0, 1, 3, 5, 6, 9, 9}) || l.end != (api.Result{Hop: 2, Steps: 6, Extracts: 2, Indexes: 2, Bits: 3}) || len(l.reads) != 8 {
		t.Errorf("a run: %v, %+v, %v", l.at, l.end, l.reads)
	}
	ends, steps := map[api.Errno]int{}, map[int]int{}
	next := counter()
	for _, b := range samples() {
		family := one(next, families...)
		l := lifeOf(family, b, someAddress(next, family))
		ends[l.end.Err]++
		steps[l.end.Steps]++
	}
	for _, e := range []api.Errno{api.OK, api.ErrBounds, api.ErrOp, api.ErrArg, api.ErrMap, api.ErrBits} {
		if ends[e] < 100 {
			t.Errorf("the samples end with %v", ends)
		}
	}
	if len(steps) < 40 {
		t.Errorf("the samples take %v steps", steps)
	}
}
