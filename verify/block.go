package verify

import (
	"iter"
	"math/bits"

	"turnpike/api"
)

const (
	wordBits   = 32
	aheadOfMap = 2 // the words of a block ahead of its map: of the extract, and of the index
)

// block is one of code: the word at which it begins, the bits that it takes, the map of its slots, and what its entries say.
type block struct {
	at, bits int
	slots    []uint32
	entries  []entry
}

// entry says an answer, or to which word it jumps; once jumps are linked, to which block.
type entry struct {
	jumps bool
	n     int
}

// placeOf is the word at which an entry stands.
func (b block) placeOf(k int) int {
	return b.at + aheadOfMap + len(b.slots) + k
}

// node is what the block was laid of.
func (b block) node() api.Node {
	runs := make([]api.Run, 0, len(b.entries))
	for from := range places(b.slots) {
		x := b.entries[len(runs)]
		runs = append(runs, api.Run{From: api.Word{Lo: uint64(from)}, Kid: x.jumps, N: x.n})
	}
	return api.Node{Bits: b.bits, Runs: runs}
}

// places goes over those of a bitmap that are set. It goes word by word: to ask for one after the other by its number would begin anew with each.
func places(m []uint32) iter.Seq[int] {
	return func(yield func(int) bool) {
		for k, w := range m {
			for w != 0 {
				first := bits.LeadingZeros32(w)
				if !yield(k*wordBits + first) {
					return
				}
				w -= 1 << (wordBits - 1 - first)
			}
		}
	}
}
