package asm

import (
	"strconv"
	"strings"

	"turnpike/api"
	"turnpike/code"
	"turnpike/wire"
)

// noOp stands for a word at which no instruction begins; it is no operation.
const noOp = 0

// names are the first words of lines, by operation.
var names = [...]string{noOp: "word", api.OExtract: "extract", api.OIndex: "index", api.OJump: "jump", api.OReturn: "return"}

const (
	sixteen    = "0123456789abcdef" // the digits of a word, by their numbers
	digitBits  = 4
	wordDigits = 8
)

// writeLine writes the line of what stands at a word, and tells how many words that has.
func writeLine(text *strings.Builder, b []byte, at int) int {
	i, size, e := code.Decode(b, at)
	if e != api.OK {
		w, _ := wire.Get32(b, at*wordBytes)
		text.WriteString(names[noOp])
		writeWords(text, w)
		text.WriteByte('\n')
		return 1
	}
	text.WriteString(names[i.Op])
	text.WriteByte(' ')
	text.WriteString(strconv.Itoa(i.N))
	writeWords(text, i.Map...)
	text.WriteByte('\n')
	return size
}

// writeWords writes words by their digits, a blank ahead of each.
func writeWords(text *strings.Builder, words ...uint32) {
	for _, w := range words {
		text.WriteByte(' ')
		for k := wordDigits - 1; k >= 0; k-- {
			text.WriteByte(sixteen[w>>(k*digitBits)%(1<<digitBits)])
		}
	}
}
