package code

import (
	"iter"

	"turnpike/api"
	"turnpike/wire"
)

const (
	wordBytes = 4
	wordBits  = 32
	opShift   = 24 // the highest byte of the first word is the operation
)

// words goes over those of an instruction that Check takes: that of its operation and number, and those of its map.
func words(i api.Instr) iter.Seq[uint32] {
	return func(yield func(uint32) bool) {
		if !yield(uint32(i.Op)<<opShift | uint32(i.N)) {
			return
		}
		for _, w := range i.Map {
			if !yield(w) {
				return
			}
		}
	}
}

// read reads the instruction that begins at a word; beside an error it is not whole.
func read(b []byte, at int) (api.Instr, api.Errno) {
	if !stand(b, at, 1) {
		return api.Instr{}, api.ErrBounds
	}
	first := wordAt(b, at)
	i := api.Instr{Op: int(first >> opShift), N: int(first % (1 << opShift))}
	k, ok := kindOf(i.Op)
	if !ok || i.N > k.room {
		return i, api.ErrOp
	}
	if !k.takes(i.N) {
		return i, api.ErrArg
	}
	if !k.hasMap {
		return i, api.OK
	}
	var e api.Errno
	i.Map, e = readMap(b, at+1, i.N)
	return i, e
}

// readMap reads the map of n that begins at a word.
func readMap(b []byte, at, n int) ([]uint32, api.Errno) {
	size := mapWords(n)
	if !stand(b, at, size) {
		return nil, api.ErrBounds
	}
	// Asked ahead of reading the others: a row may have very many words behind which a great map would stand, and has none.
	if !beginsMap(wordAt(b, at), n) {
		return nil, api.ErrMap
	}
	m := make([]uint32, size)
	for k := range m {
		m[k] = wordAt(b, at+k)
	}
	return m, api.OK
}

// stand tells whether so many whole words stand in b from a place on. The place is neither added to nor multiplied: it may be the greatest number there is.
func stand(b []byte, at, size int) bool {
	return 0 <= at && at <= len(b)/wordBytes-size
}

// wordAt is the word at a place at which one stands.
func wordAt(b []byte, at int) uint32 {
	w, _ := wire.Get32(b, at*wordBytes)
	return w
}

// mapWords is how many words a map of n has.
func mapWords(n int) int {
	return max(1, (1<<n)/wordBits)
}

// isMap tells whether a bitmap is a map of n.
func isMap(m []uint32, n int) bool {
	return len(m) == mapWords(n) && beginsMap(m[0], n)
}

// beginsMap tells whether a map of n may begin with a word; all other words of one may be any. Only a single word has places from 2^n on: where it has none, the shift leaves nothing either.
func beginsMap(w uint32, n int) bool {
	return w>>(wordBits-1) == 1 && w<<(1<<n) == 0
}
