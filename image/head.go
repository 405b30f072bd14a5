package image

import (
	"turnpike/api"
	"turnpike/wire"
)

const (
	magic     = "TPK1"
	sumAt     = 12 // the sum covers what stands ahead of it, and the code
	headBytes = 16
	wordBytes = 4
)

// head is a header, with what is asked of it wherever it comes from.
type head struct {
	api.Header
}

// check tells what is wrong with a header by itself.
func (h head) check() api.Errno {
	if h.W != api.W4 && h.W != api.W6 {
		return api.ErrFamily
	}
	// Depth is asked first: of one out of its bounds the steps could wrap round.
	if h.Depth < 0 || h.Depth > h.W || h.Steps != stepsOf(h.Depth) {
		return api.ErrSteps
	}
	return api.OK
}

// stepsOf is how many steps a run takes at most: one, where nothing is asked of the address.
func stepsOf(depth int) int {
	return max(1, 3*depth)
}

// counts tells whether code has just Words words. The bytes are divided: Words, times four, could wrap round to them.
func (h head) counts(code []byte) bool {
	return len(code)%wordBytes == 0 && len(code)/wordBytes == h.Words
}

func (h head) tooLong() bool {
	return h.Words > (api.MaxImage-headBytes)/wordBytes
}

// size is how many bytes an image that is not too long has.
func (h head) size() int {
	return headBytes + h.Words*wordBytes
}

// bytes is a right head as far as the sum covers it.
func (h head) bytes() []byte {
	b := append([]byte(magic), byte(h.W), byte(h.Depth))
	b = wire.Put16(b, uint16(h.Steps))
	return wire.Put32(b, uint32(h.Words))
}
