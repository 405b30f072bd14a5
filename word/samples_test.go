package word

import (
	"math"
	"math/big"
	"testing"

	"turnpike/api"
)

// modulus is 2^128.
var modulus = new(big.Int).Lsh(big.NewInt(1), 128)

// ones is the word all of whose bits are set.
var ones = api.Word{Hi: math.MaxUint64, Lo: math.MaxUint64}

// number is the word as W1 says it.
func number(w api.Word) *big.Int {
	n := new(big.Int).SetUint64(w.Hi)
	return n.Lsh(n, 64).Or(n, new(big.Int).SetUint64(w.Lo))
}

// wordOf is the word of a number, modulo 2^128.
func wordOf(n *big.Int) api.Word {
	m := new(big.Int).Mod(n, modulus)
	hi := new(big.Int).Rsh(m, 64)
	lo := new(big.Int).And(m, new(big.Int).SetUint64(math.MaxUint64))
	return api.Word{Hi: hi.Uint64(), Lo: lo.Uint64()}
}

// bitOf tells bit i of a word by W1 alone, without the package's own functions.
func bitOf(w api.Word, i int) int {
	return int(number(w).Bit(127 - i))
}

// fromBits makes a word whose bit i is what bit tells.
func fromBits(bit func(i int) int) api.Word {
	n := new(big.Int)
	for i := range 128 {
		n.SetBit(n, 127-i, uint(bit(i)))
	}
	return wordOf(n)
}

// samples are words at the edges (single bits, masks, both halves' ends) and some without a pattern, always the same ones.
func samples() []api.Word {
	l := []api.Word{
		{}, ones, {Lo: 1}, {Lo: 2}, {Lo: 3}, {Lo: math.MaxUint64}, {Hi: math.MaxUint64},
		{Hi: 1}, {Hi: 1, Lo: 1}, {Hi: 1 << 63}, {Lo: 1 << 63}, {Hi: 1 << 63, Lo: 1},
		{Hi: math.MaxUint64, Lo: math.MaxUint64 - 1}, {Hi: math.MaxUint64 - 1, Lo: math.MaxUint64},
		{Hi: 0x0123456789abcdef, Lo: 0xfedcba9876543210},
		{Hi: 0x5555555555555555, Lo: 0xaaaaaaaaaaaaaaaa},
	}
	for _, n := range []int{7, 31, 32, 33, 63, 64, 65, 100, 126} {
		one := new(big.Int).Lsh(big.NewInt(1), uint(n))
		l = append(l, wordOf(one), wordOf(new(big.Int).Neg(one)))
	}
	x := uint64(88172645463325252)
	next := func() uint64 {
		x ^= x << 13
		x ^= x >> 7
		x ^= x << 17
		return x
	}
	for range 24 {
		l = append(l, api.Word{Hi: next(), Lo: next()})
	}
	return l
}

// places are numbers of bits: all that a word has, and what lies around them and far off.
func places() []int {
	l := []int{math.MinInt, math.MinInt + 1, math.MinInt32, -129, -128, -127, -64, -2, -1}
	for i := range 131 {
		l = append(l, i)
	}
	return append(l, 191, 192, 255, 256, 257, math.MaxInt32, math.MaxInt-1, math.MaxInt)
}

// within brings n to 0 to 128.
func within(n int) int {
	return min(max(n, 0), 128)
}

func TestSamplesAreSound(t *testing.T) {
	for _, w := range samples() {
		if wordOf(number(w)) != w || fromBits(func(i int) int { return bitOf(w, i) }) != w {
			t.Fatalf("%x is not read as itself", w)
		}
	}
}
