package wire

import (
	"math/bits"

	"turnpike/api"
)

const (
	wordBits = 32
	highest  = 1 << (wordBits - 1) // the first place of a word
)

// Rank tells how many bits of a bitmap are set up to one, that counted; Select the place of the k-th.
func Rank(m []uint32, i int) (int, api.Errno) {
	if i < 0 || i/wordBits >= len(m) {
		return 0, api.ErrBounds
	}
	at := i / wordBits
	upTo := m[at] >> (wordBits - 1 - i%wordBits)
	return Ones(m[:at]) + bits.OnesCount32(upTo), api.OK
}

func Select(m []uint32, k int) (int, api.Errno) {
	if k < 0 {
		return 0, api.ErrNone
	}
	for at, w := range m {
		n := bits.OnesCount32(w)
		if k < n {
			return at*wordBits + placeIn(w, k), api.OK
		}
		k -= n
	}
	return 0, api.ErrNone
}

// placeIn is the place in a word that is set and ahead of which k are; more than k are set.
func placeIn(w uint32, k int) int {
	for range k {
		w &^= highest >> bits.LeadingZeros32(w)
	}
	return bits.LeadingZeros32(w)
}

func Ones(m []uint32) int {
	n := 0
	for _, w := range m {
		n += bits.OnesCount32(w)
	}
	return n
}

// wordsOf is how few words have so many places.
func wordsOf(places int) int {
	n := places / wordBits
	if places%wordBits != 0 {
		n++
	}
	return n
}

// set sets a place; isSet tells whether one is.
func set(m []uint32, i int) {
	m[i/wordBits] |= highest >> (i % wordBits)
}

func isSet(m []uint32, i int) bool {
	return m[i/wordBits]&(highest>>(i%wordBits)) != 0
}
