package wire

import (
	"fmt"
	"math"
	"slices"
	"strconv"
	"strings"
	"testing"
)

// full is a word all of whose bits are set.
const full = math.MaxUint32

// farBelow, farAbove are numbers that are no place and no count of anything here.
var (
	farBelow = []int{math.MinInt, math.MinInt + 1, math.MinInt32, -1 << 32, -65, -64, -33, -32, -31, -4, -3, -2, -1}
	farAbove = []int{1 << 20, math.MaxInt32 - 1, math.MaxInt32, 1 << 31, 1 << 32, 1<<32 + 1, 1 << 62, math.MaxInt - 33, math.MaxInt - 32, math.MaxInt - 31, math.MaxInt - 3, math.MaxInt - 2, math.MaxInt - 1, math.MaxInt}
)

// counter makes numbers without a pattern, always the same ones.
func counter() func() uint64 {
	x := uint64(0x9e3779b97f4a7c15)
	return func() uint64 {
		x ^= x << 13
		x ^= x >> 7
		x ^= x << 17
		return x
	}
}

// someBytes is a row of bytes without a pattern.
func someBytes(next func() uint64, size int) []byte {
	b := make([]byte, size)
	for i := range b {
		b[i] = byte(next() >> 11)
	}
	return b
}

// spell writes a bitmap as signs 0 and 1, place by place. What the chapter says of places is said of such texts: the tests hold the one against the other.
func spell(m []uint32) string {
	var s strings.Builder
	for _, w := range m {
		fmt.Fprintf(&s, "%032b", w)
	}
	return s.String()
}

// mapOf is the bitmap of a text, in as few words as have its places.
func mapOf(s string) []uint32 {
	var m []uint32
	for len(s)%32 != 0 {
		s += "0"
	}
	for ; s != ""; s = s[32:] {
		w, err := strconv.ParseUint(s[:32], 2, 32)
		if err != nil {
			panic(err)
		}
		m = append(m, uint32(w))
	}
	return m
}

// rankBy is how many signs 1 a text has up to a place, that counted.
func rankBy(s string, i int) int {
	return strings.Count(s[:i+1], "1")
}

// bitmaps are some at the edges (no words, none set, all set, each place by itself, and each but one), and some without a pattern, scarce and dense.
func bitmaps() [][]uint32 {
	l := [][]uint32{nil, {}, {0}, {full}, {0, 0}, {full, full}, {0, full}, {full, 0}, {0, 0, 0, 0}, {full, full, full, full, full}, {0xB0000000}, {0xB0000000, 1}, {0x55555555, 0xAAAAAAAA, 0x0F0F0F0F}}
	for size := 1; size <= 3; size++ {
		for i := range 32 * size {
			s := strings.Repeat("0", i) + "1" + strings.Repeat("0", 32*size-i-1)
			turned := strings.NewReplacer("0", "1", "1", "0").Replace(s)
			l = append(l, mapOf(s), mapOf(turned))
		}
	}
	next := counter()
	for i := range 300 {
		m := make([]uint32, next()%9)
		for at := range m {
			switch i % 3 {
			case 0:
				m[at] = uint32(next() >> 9)
			case 1:
				m[at] = uint32(next()>>9) & uint32(next()>>20) & uint32(next()>>7) & uint32(next()>>13)
			case 2:
				m[at] = uint32(next()>>9) | uint32(next()>>20) | uint32(next()>>7) | uint32(next()>>13)
			}
		}
		l = append(l, m)
	}
	return l
}

// someRow is a row of elements of 0 to kinds - 1, in which so many of a hundred are the one ahead again.
func someRow(next func() uint64, size, kinds, again int) []int {
	l := make([]int, size)
	for i := range l {
		l[i] = int(next() >> 7 % uint64(kinds))
		if i > 0 && next()>>9%100 < uint64(again) {
			l[i] = l[i-1]
		}
	}
	return l
}

// sizes are lengths of rows around those at which a bitmap has one word more.
var sizes = []int{0, 1, 2, 3, 4, 5, 30, 31, 32, 33, 34, 63, 64, 65, 95, 96, 97, 127, 128, 129, 1000, 1023, 1024, 1025}

// rows are rows of these lengths: all alike, none alike, one unlike the others at each edge, and without a pattern.
func rows() [][]int {
	var l [][]int
	next := counter()
	for _, size := range sizes {
		alike, unlike := make([]int, size), make([]int, size)
		for i := range size {
			alike[i], unlike[i] = 7, i
		}
		l = append(l, alike, unlike)
		for _, at := range []int{0, 1, 30, 31, 32, 33, 63, 64, size - 2, size - 1} {
			if 0 <= at && at < size {
				other := slices.Clone(alike)
				other[at] = 0
				l = append(l, other)
			}
		}
		for _, again := range []int{0, 20, 50, 90, 98} {
			l = append(l, someRow(next, size, 2, again), someRow(next, size, 5, again))
		}
	}
	return l
}

// guarded is a copy of a list with room behind it, and a function that tells whether both are as they were.
func guarded[T comparable](l []T, mark T) (handed []T, asItWas func() bool) {
	all := append(slices.Clone(l), mark, mark, mark, mark, mark)
	was := slices.Clone(all)
	return all[:len(l)], func() bool { return slices.Equal(all, was) }
}

// overwrite puts marks over all of a list, its spare room too.
func overwrite[T any](l []T, mark T) {
	l = l[:cap(l)]
	for i := range l {
		l[i] = mark
	}
}

func TestSamplesAreSound(t *testing.T) {
	for _, m := range bitmaps() {
		s := spell(m)
		if !slices.Equal(mapOf(s), m) || len(s) != 32*len(m) {
			t.Fatalf("%x is spelt %s", m, s)
		}
		// Place i is bit 31 - i % 32 of word i / 32.
		for i := range s {
			if bit := m[i/32] / (1 << (31 - i%32)) % 2; s[i] != '0'+byte(bit) {
				t.Fatalf("%x at %d is spelt %s", m, i, s)
			}
		}
	}
}
