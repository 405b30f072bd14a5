package asm

import (
	"strings"

	"turnpike/api"
	"turnpike/code"
	"turnpike/wire"
)

// maxDigits is how many digits a decimal number has at most.
const maxDigits = 9

// reader goes over a text of lines.
type reader struct {
	text string
	at   int // the byte that is read next
}

// line reads a line, up to its end: the bytes that it stands for. What it says is asked about only where it is read whole, since a line that is none is told ahead of that.
func (r *reader) line() ([]byte, api.Errno) {
	var (
		i  api.Instr
		w  uint32
		ok bool
	)
	i.Op, ok = r.name()
	if !ok {
		goto wrong
	}
	if i.Op == noOp {
		goto bareWord
	}
	i.N, ok = r.number()
	if !ok {
		goto wrong
	}
	if i.Op == api.OIndex {
		goto mapWord
	}
	if !r.ended() {
		goto wrong
	}
	goto instruction

mapWord:
	if r.ended() {
		goto instruction
	}
	w, ok = r.word()
	if !ok {
		goto wrong
	}
	i.Map = append(i.Map, w)
	goto mapWord

bareWord:
	w, ok = r.word()
	if !ok || !r.ended() {
		goto wrong
	}
	return wire.Put32(nil, w), api.OK

instruction:
	return code.Encode(nil, i)

wrong:
	return nil, api.ErrWord
}

// name reads a line's first word: the operation that it names, or noOp.
func (r *reader) name() (int, bool) {
	for op := range len(names) {
		if r.takes(names[op]) {
			return op, true
		}
	}
	return 0, false
}

// number reads a blank and a decimal number. A digit too many is left, and there is no line that goes on with one.
func (r *reader) number() (int, bool) {
	if !r.takes(" ") {
		return 0, false
	}
	n, from := 0, r.at
digit:
	if c := r.here(); '0' <= c && c <= '9' && r.at-from < maxDigits {
		n = 10*n + int(c-'0')
		r.at++
		goto digit
	}
	size := r.at - from
	return n, size == 1 || size > 1 && r.text[from] != '0'
}

// word reads a blank and a word's digits.
func (r *reader) word() (uint32, bool) {
	if !r.takes(" ") {
		return 0, false
	}
	w, count := uint32(0), 0
digit:
	value := strings.IndexByte(sixteen, r.here())
	if value < 0 {
		return 0, false
	}
	w = w<<digitBits | uint32(value)
	r.at++
	count++
	if count < wordDigits {
		goto digit
	}
	return w, true
}

// takes goes over a piece of text, if it stands there.
func (r *reader) takes(piece string) bool {
	if !strings.HasPrefix(r.text[r.at:], piece) {
		return false
	}
	r.at += len(piece)
	return true
}

// here is the byte that is read next. The text's end ends a line as a byte 10 does, and is told as one.
func (r *reader) here() byte {
	if r.at == len(r.text) {
		return '\n'
	}
	return r.text[r.at]
}

// ended tells whether the reader stands at the line's end.
func (r *reader) ended() bool {
	return r.here() == '\n'
}
