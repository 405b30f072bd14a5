package code

import (
	"encoding/hex"
	"fmt"
	"math"
	"regexp"
	"slices"
	"strconv"
	"strings"
	"testing"

	"turnpike/api"
)

const (
	full    = math.MaxUint32 // a word all of whose bits are set
	highest = 1 << 31        // a word of which place 0 alone is set
	maxN    = 1<<24 - 1      // of a jump
)

// noOps are numbers that are no operation; some are one in their lowest byte, or in their lowest 32 bits.
var noOps = []int{0, 5, 6, 7, 8, -1, -2, -3, -4, -255, -254, 16, 255, 256, 257, 258, 259, 260, 1 << 24, 1<<24 + 4, math.MaxInt32, math.MinInt32, 1<<32 + 1, 1<<32 + 2, 1<<32 + 4, math.MaxInt - 1, math.MaxInt, math.MinInt, math.MinInt + 1, math.MinInt + 4}

// far are numbers that no instruction takes.
var far = []int{-1, -2, -24, -255, -256, -65536, 1 - 1<<24, -1 << 24, 1 << 24, 1<<24 + 1, 1<<24 + 24, 1<<25 - 1, math.MaxInt32, 1 << 31, math.MinInt32, 1 << 32, 1<<32 + 1, 1<<32 + 5, 1<<32 + 24, math.MaxInt - 1, math.MaxInt, math.MinInt, math.MinInt + 1, math.MinInt + 5}

// bounds is the chapter's table: the least and the greatest N of each operation.
var bounds = map[int][2]int{api.OExtract: {1, 24}, api.OIndex: {1, 24}, api.OJump: {1, maxN}, api.OReturn: {0, 65535}}

// firstWords is the chapter's table: how each operation's first word is written.
var firstWords = map[int]string{api.OExtract: "010000%02x", api.OIndex: "020000%02x", api.OJump: "03%06x", api.OReturn: "0400%04x"}

// firstWord reads what firstWords writes.
var firstWord = regexp.MustCompile("^(01)0000(..)|^(02)0000(..)|^(03)(......)|^(04)00(....)")

// counter makes numbers without a pattern, always the same ones.
func counter() func() uint64 {
	x := uint64(0x9e3779b97f4a7c15)
	return func() uint64 {
		x ^= x << 13
		x ^= x >> 7
		x ^= x << 17
		return x
	}
}

// upTo is a number from 0 on below most, without a pattern.
func upTo(next func() uint64, most int) int {
	return int(next() >> 11 % uint64(most))
}

// spell writes a bitmap as signs 0 and 1, place by place.
func spell(m []uint32) string {
	var s strings.Builder
	for _, w := range m {
		fmt.Fprintf(&s, "%032b", w)
	}
	return s.String()
}

// isMapBy tells whether a bitmap is a map of n, by its places as signs: 2^n of them, and behind these as many as fill the last word.
func isMapBy(m []uint32, n int) bool {
	s := spell(m)
	places := 1 << n
	if len(s) < places || len(s) >= places+32 {
		return false
	}
	return s[0] == '1' && !strings.Contains(s[places:], "1")
}

// checkBy is Check, as the chapter says it.
func checkBy(i api.Instr) api.Errno {
	b, ok := bounds[i.Op]
	if !ok {
		return api.ErrOp
	}
	if i.N < b[0] || b[1] < i.N {
		return api.ErrArg
	}
	if i.Op == api.OIndex && !isMapBy(i.Map, i.N) || i.Op != api.OIndex && len(i.Map) != 0 {
		return api.ErrMap
	}
	return api.OK
}

// bytesBy is an instruction's bytes, by their digits.
func bytesBy(i api.Instr) []byte {
	s := fmt.Sprintf(firstWords[i.Op], i.N)
	for _, w := range i.Map {
		s += fmt.Sprintf("%08x", w)
	}
	return unhex(s)
}

// decodeBy is Decode, as the chapter says it, by digits. (The place is one that can be multiplied.)
func decodeBy(b []byte, at int) (api.Instr, int, api.Errno) {
	if at < 0 || 4*at+4 > len(b) {
		return api.Instr{}, 0, api.ErrBounds
	}
	found := slices.DeleteFunc(firstWord.FindStringSubmatch(hex.EncodeToString(b[4*at:4*at+4])), func(s string) bool { return s == "" })
	if len(found) != 3 {
		return api.Instr{}, 0, api.ErrOp
	}
	i := api.Instr{Op: digits(found[1]), N: digits(found[2])}
	if i.N < bounds[i.Op][0] || bounds[i.Op][1] < i.N {
		return api.Instr{}, 0, api.ErrArg
	}
	if i.Op == api.OIndex {
		for places := 0; places < 1<<i.N; places += 32 {
			from := 4 * (at + 1 + len(i.Map))
			if from+4 > len(b) {
				return api.Instr{}, 0, api.ErrBounds
			}
			i.Map = append(i.Map, uint32(digits(hex.EncodeToString(b[from:from+4]))))
		}
		if !isMapBy(i.Map, i.N) {
			return api.Instr{}, 0, api.ErrMap
		}
	}
	return i, 1 + len(i.Map), api.OK
}

// digits is the number of digits of sixteen.
func digits(s string) int {
	n, err := strconv.ParseInt(s, 16, 64)
	if err != nil {
		panic(err)
	}
	return int(n)
}

// unhex is the bytes of digits of sixteen; blanks between them are nothing.
func unhex(s string) []byte {
	b, err := hex.DecodeString(strings.ReplaceAll(s, " ", ""))
	if err != nil {
		panic(err)
	}
	return b
}

// sameInstr tells whether two instructions are the same. (No map and an empty one are.)
func sameInstr(a, b api.Instr) bool {
	return a.Op == b.Op && a.N == b.N && slices.Equal(a.Map, b.Map)
}

// isNone tells whether an instruction has but zero values.
func isNone(i api.Instr) bool {
	return i.Op == 0 && i.N == 0 && len(i.Map) == 0
}

// short writes an instruction for a report: of a long map its first words.
func short(i api.Instr) string {
	return fmt.Sprintf("{%d %d %x (%d words)}", i.Op, i.N, i.Map[:min(len(i.Map), 4)], len(i.Map))
}

// mapOf is a map of n of which place 0 and these places are set. (Places from 2^n on can be set, too, if there is a word that has them.)
func mapOf(n int, places ...int) []uint32 {
	m := make([]uint32, (1<<n+31)/32)
	for _, i := range append(places, 0) {
		m[i/32] |= 1 << (31 - i%32)
	}
	return m
}

// someMap is a map of n without a pattern; scarce, if it is asked for.
func someMap(next func() uint64, n int, scarce bool) []uint32 {
	m := mapOf(n)
	for k := range m {
		w := uint32(next() >> 13)
		if scarce {
			w &= uint32(next()>>7) & uint32(next()>>17) & uint32(next()>>23)
		}
		if n < 5 {
			w = w >> (32 - 1<<n) << (32 - 1<<n)
		}
		m[k] |= w
	}
	return m
}

// instrs are instructions that are right: each operation at its edges and between, maps of each size up to that of 13 bits.
func instrs() []api.Instr {
	var l []api.Instr
	for n := 1; n <= 24; n++ {
		l = append(l, api.Instr{Op: api.OExtract, N: n})
	}
	for _, n := range []int{1, 2, 3, 24, 25, 254, 255, 256, 257, 258, 65534, 65535, 65536, 65537, 0x010203, 0x030201, 0x7FFFFF, 0x800000, maxN - 1, maxN} {
		l = append(l, api.Instr{Op: api.OJump, N: n})
	}
	for _, n := range []int{0, 1, 2, 24, 25, 254, 255, 256, 257, 258, 0x0201, 0x7FFF, 0x8000, 65534, 65535} {
		l = append(l, api.Instr{Op: api.OReturn, N: n})
	}
	next := counter()
	for n := 1; n <= 13; n++ {
		last := 1<<n - 1
		l = append(l, api.Instr{Op: api.OIndex, N: n, Map: mapOf(n)}, api.Instr{Op: api.OIndex, N: n, Map: mapOf(n, last)}, api.Instr{Op: api.OIndex, N: n, Map: mapOf(n, 1, last/2, last/2+1, last-1)})
		for k := range 4 {
			l = append(l, api.Instr{Op: api.OIndex, N: n, Map: someMap(next, n, k%2 == 0)})
		}
	}
	for range 100 {
		l = append(l, api.Instr{Op: api.OJump, N: 1 + upTo(next, maxN)}, api.Instr{Op: api.OReturn, N: upTo(next, 65536)})
	}
	return l
}

// wrongInstrs are instructions that are wrong, by each error, and by several.
func wrongInstrs() []api.Instr {
	var l []api.Instr
	maps := [][]uint32{nil, {}, {0}, {highest}, {full}, {highest, 0}}
	for _, op := range noOps {
		for _, n := range append(far, 0, 1, 24, 258) {
			for _, m := range maps {
				l = append(l, api.Instr{Op: op, N: n, Map: m})
			}
		}
	}
	for op, b := range bounds {
		for _, n := range append(far, b[0]-1, b[1]+1) {
			for _, m := range maps {
				l = append(l, api.Instr{Op: op, N: n, Map: m})
			}
		}
		if op != api.OIndex {
			for _, m := range maps[2:] {
				l = append(l, api.Instr{Op: op, N: 1, Map: m}, api.Instr{Op: op, N: b[1], Map: m})
			}
		}
	}
	for n := 1; n <= 13; n++ {
		m := mapOf(n, 1<<n-1)
		for _, wrong := range [][]uint32{nil, {}, m[1:], m[:len(m)-1], append(slices.Clone(m), 0), append(slices.Clone(m), highest), append([]uint32{0}, m...), append([]uint32{highest}, m...), append([]uint32{m[0] &^ highest}, m[1:]...), make([]uint32, len(m))} {
			l = append(l, api.Instr{Op: api.OIndex, N: n, Map: wrong})
		}
	}
	for n := 1; n <= 4; n++ {
		for place := 1 << n; place < 32; place++ {
			l = append(l, api.Instr{Op: api.OIndex, N: n, Map: mapOf(n, place)})
		}
	}
	return l
}

// guarded is a copy of a list with room behind it, and a function that tells whether both are as they were.
func guarded[T comparable](l []T, mark T) (handed []T, asItWas func() bool) {
	all := append(slices.Clone(l), mark, mark, mark, mark, mark, mark, mark, mark, mark)
	was := slices.Clone(all)
	return all[:len(l)], func() bool { return slices.Equal(all, was) }
}

// overwrite puts marks over all of a list, its spare room too.
func overwrite[T any](l []T, mark T) {
	l = l[:cap(l)]
	for i := range l {
		l[i] = mark
	}
}

func TestSamplesAreSound(t *testing.T) {
	for _, i := range instrs() {
		if e := checkBy(i); e != api.OK {
			t.Fatalf("%s: %v", short(i), e)
		}
		if back, size, e := decodeBy(bytesBy(i), 0); !sameInstr(back, i) || size != 1+len(i.Map) || e != api.OK {
			t.Fatalf("%s is read as %s, %d, %v", short(i), short(back), size, e)
		}
	}
	count := map[api.Errno]int{}
	for _, i := range wrongInstrs() {
		count[checkBy(i)]++
	}
	if count[api.OK] != 0 || count[api.ErrOp] < 100 || count[api.ErrArg] < 100 || count[api.ErrMap] < 100 {
		t.Fatalf("%v", count)
	}
}
