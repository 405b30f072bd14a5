package prefix

import (
	"math"
	"strings"
	"testing"

	"turnpike/api"
)

var (
	families = []int{32, 128}
	// noFamilies are numbers that are no family, those beside one and far off among them.
	noFamilies = []int{math.MinInt, -128, -32, -1, 0, 1, 8, 16, 31, 33, 64, 96, 127, 129, 160, 256, math.MaxInt}
	lastFour   = api.Word{Hi: 0xffffffff << 32}
	lastSix    = api.Word{Hi: math.MaxUint64, Lo: math.MaxUint64}
)

// noLens are lengths that no prefix of the family has.
func noLens(family int) []int {
	l := []int{math.MinInt, math.MinInt + 1, -129, -128, -33, -32, -1, family + 1, 129, 256, math.MaxInt - 1, math.MaxInt}
	if family == 32 {
		l = append(l, 64, 127, 128)
	}
	return l
}

// spell writes the first n bits of a word as signs 0 and 1. What the document says of prefixes is said of such texts by the library's strings: the tests hold the one against the other.
func spell(w api.Word, n int) string {
	b := make([]byte, n)
	for i := range n {
		half, at := w.Hi, 63-i
		if i >= 64 {
			half, at = w.Lo, 127-i
		}
		b[i] = '0' + byte(half>>at&1)
	}
	return string(b)
}

// ofBits is the word that begins with these bits.
func ofBits(s string) api.Word {
	var w api.Word
	for i := range len(s) {
		if s[i] == '0' {
			continue
		}
		if i < 64 {
			w.Hi |= 1 << (63 - i)
		} else {
			w.Lo |= 1 << (127 - i)
		}
	}
	return w
}

// made is the prefix of these bits.
func made(s string) api.Prefix {
	return api.Prefix{Addr: ofBits(s), Len: len(s)}
}

// bitsOf writes a prefix's bits.
func bitsOf(p api.Prefix) string {
	return spell(p.Addr, p.Len)
}

// fill makes a text as long as an address by more signs of one kind.
func fill(s string, family int, sign string) string {
	return s + strings.Repeat(sign, family-len(s))
}

// counter makes words without a pattern, always the same ones.
func counter() func() uint64 {
	x := uint64(0x9e3779b97f4a7c15)
	return func() uint64 {
		x ^= x << 13
		x ^= x >> 7
		x ^= x << 17
		return x
	}
}

// addresses are some of a family: both ends, both halves' ends, patterns, and some without one.
func addresses(family int) []api.Word {
	l := []api.Word{
		{}, lastSix, {Hi: 1 << 63}, {Hi: math.MaxUint64 >> 1, Lo: math.MaxUint64}, {Hi: 0x0a000000 << 32}, {Hi: 0x0a800001 << 32},
		{Hi: 0x5555555555555555, Lo: 0x5555555555555555}, {Hi: 0xaaaaaaaaaaaaaaaa, Lo: 0xaaaaaaaaaaaaaaaa},
		{Hi: 1, Lo: 1 << 63}, {Hi: 1 << 32}, {Lo: 1}, {Lo: 1 << 63}, {Hi: math.MaxUint64}, {Lo: math.MaxUint64}, {Hi: 0x20010db8 << 32, Lo: 1},
	}
	next := counter()
	for range 6 {
		l = append(l, api.Word{Hi: next(), Lo: next()})
	}
	for i, w := range l {
		l[i] = ofBits(spell(w, family))
	}
	return l
}

// prefixes are those of every length of all sample addresses.
func prefixes(family int) []api.Prefix {
	var l []api.Prefix
	for _, w := range addresses(family) {
		for n := range family + 1 {
			l = append(l, made(spell(w, n)))
		}
	}
	return l
}

// tree is all prefixes of at most some bits more than a given one, in no order that W3 knows: the longest first.
func tree(root string, more int) []api.Prefix {
	if more == 0 {
		return []api.Prefix{made(root)}
	}
	l := tree(root+"1", more-1)
	l = append(l, tree(root+"0", more-1)...)
	return append(l, made(root))
}

// pairs are few enough to be held against one another, each against each: small trees at both ends and over the halves' edge, and a line of every length.
func pairs(family int) []api.Prefix {
	l := tree("", 3)
	for _, sign := range []string{"0", "1"} {
		l = append(l, tree(strings.Repeat(sign, family-3), 3)...)
	}
	if family == 128 {
		l = append(l, tree(strings.Repeat("01", 31), 4)...)
	}
	w := addresses(family)[len(addresses(family))-1]
	for n := range family + 1 {
		l = append(l, made(spell(w, n)))
	}
	return l
}

func TestSamplesAreSound(t *testing.T) {
	if made("00001010") != (api.Prefix{Addr: api.Word{Hi: 0x0a << 56}, Len: 8}) || bitsOf(api.Prefix{Addr: api.Word{Hi: 0x0a << 56}, Len: 9}) != "000010100" {
		t.Error("10.0.0.0/8 is not spelt as it is")
	}
	if ofBits(fill("", 128, "1")) != lastSix || ofBits(fill("", 32, "1")) != lastFour || ofBits(fill("", 127, "0")+"1") != (api.Word{Lo: 1}) {
		t.Error("an end is not spelt as it is")
	}
	for _, family := range families {
		for _, p := range append(prefixes(family), pairs(family)...) {
			if made(bitsOf(p)) != p || p.Len < 0 || p.Len > family {
				t.Fatalf("%v is not spelt as it is", p)
			}
		}
	}
}
