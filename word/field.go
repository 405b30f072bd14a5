package word

import (
	"turnpike/api"
)

// stretch gives what reads the n bits from bit `from` on; false: a word has no such bits.
// Field and With both ask it, so that they refuse the same stretches.
func stretch(from, n int) (func(w api.Word) api.Word, bool) {
	if from < 0 || from > width || n < 0 || n > width-from {
		return nil, false
	}
	read := func(w api.Word) api.Word {
		return Shr(Shl(w, from), width-n)
	}
	return read, true
}

// Field tells bits as a number (right-aligned); With lays one in.
func Field(w api.Word, from, n int) (api.Word, api.Errno) {
	read, ok := stretch(from, n)
	if !ok {
		return api.Word{}, api.ErrArg
	}
	return read(w), api.OK
}

func With(w api.Word, from, n int, v api.Word) (api.Word, api.Errno) {
	read, ok := stretch(from, n)
	if !ok {
		return api.Word{}, api.ErrArg
	}
	if Shr(v, n) != (api.Word{}) {
		return api.Word{}, api.ErrWide
	}
	// Only the bits in which the old number and v differ are turned, so no bit beside the stretch can change.
	turned := Xor(read(w), v)
	return Xor(w, Shl(turned, width-from-n)), api.OK
}
