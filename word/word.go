// Package word: words of 128 bits. See doc/01-word.md.
package word

import (
	"math/bits"

	"turnpike/api"
)

// width is how many bits a word has.
const width = 128

// Bit tells a bit, Mask the word whose first n bits are set.
func Bit(w api.Word, i int) int {
	if i < 0 || i >= width {
		return 0
	}
	return int(Shr(w, width-1-i).Lo & 1)
}

func Mask(n int) api.Word {
	// Shr counts an n that is out of bounds just as Mask must.
	return Not(Shr(Not(api.Word{}), n))
}

// And, Or, Xor, Not work bit by bit; Shl, Shr move all bits.
func And(a, b api.Word) api.Word {
	return api.Word{Hi: a.Hi & b.Hi, Lo: a.Lo & b.Lo}
}

func Or(a, b api.Word) api.Word {
	return api.Word{Hi: a.Hi | b.Hi, Lo: a.Lo | b.Lo}
}

func Xor(a, b api.Word) api.Word {
	return api.Word{Hi: a.Hi ^ b.Hi, Lo: a.Lo ^ b.Lo}
}

func Not(a api.Word) api.Word {
	return api.Word{Hi: ^a.Hi, Lo: ^a.Lo}
}

func Shl(a api.Word, n int) api.Word {
	switch {
	case n <= 0:
		return a
	case n >= width:
		return api.Word{}
	case n >= 64:
		return api.Word{Hi: a.Lo << (n - 64)}
	}
	return api.Word{Hi: a.Hi<<n | a.Lo>>(64-n), Lo: a.Lo << n}
}

func Shr(a api.Word, n int) api.Word {
	switch {
	case n <= 0:
		return a
	case n >= width:
		return api.Word{}
	case n >= 64:
		return api.Word{Lo: a.Hi >> (n - 64)}
	}
	return api.Word{Hi: a.Hi >> n, Lo: a.Lo>>n | a.Hi<<(64-n)}
}

// Add, Sub reckon as numbers: what is carried, borrowed; Cmp compares.
func Add(a, b api.Word) (api.Word, bool) {
	lo, carry := bits.Add64(a.Lo, b.Lo, 0)
	hi, carry := bits.Add64(a.Hi, b.Hi, carry)
	return api.Word{Hi: hi, Lo: lo}, carry != 0
}

func Sub(a, b api.Word) (api.Word, bool) {
	lo, borrow := bits.Sub64(a.Lo, b.Lo, 0)
	hi, borrow := bits.Sub64(a.Hi, b.Hi, borrow)
	return api.Word{Hi: hi, Lo: lo}, borrow != 0
}

func Cmp(a, b api.Word) int {
	if a == b {
		return 0
	}
	if a.Hi < b.Hi || a.Hi == b.Hi && a.Lo < b.Lo {
		return -1
	}
	return 1
}

// Common tells how many first bits two have alike; Ones how many are set; Lead, Trail how many noughts stand first, last.
func Common(a, b api.Word) int {
	return Lead(Xor(a, b))
}

func Ones(a api.Word) int {
	return bits.OnesCount64(a.Hi) + bits.OnesCount64(a.Lo)
}

func Lead(a api.Word) int {
	if a.Hi != 0 {
		return bits.LeadingZeros64(a.Hi)
	}
	return 64 + bits.LeadingZeros64(a.Lo)
}

func Trail(a api.Word) int {
	if a.Lo != 0 {
		return bits.TrailingZeros64(a.Lo)
	}
	return 64 + bits.TrailingZeros64(a.Hi)
}
