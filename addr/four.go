package addr

import (
	"strconv"

	"turnpike/api"
	"turnpike/word"
)

const (
	numbers    = 4 // of an address of the family 32
	numberBits = 8
	maxNumber  = 1<<numberBits - 1
)

// readFour reads four numbers, a point between two; false: s is no such text.
func readFour(s string) (api.Word, bool) {
	var w api.Word
	at := 0
text:
	for i := range numbers {
		n, size := number(s[at:])
		w = put(w, i, numberBits, n)
		at += size
		switch {
		case size == 0:
			break text
		case i == numbers-1:
			return w, at == len(s)
		case at == len(s) || s[at] != '.':
			break text
		}
		at++
	}
	return api.Word{}, false
}

// number reads the number that s begins with, and tells how many digits it has: none, if there is no number, or one that is too great. A nought is a number by itself, so that digits behind it belong to none.
func number(s string) (n uint64, size int) {
	for size < len(s) && '0' <= s[size] && s[size] <= '9' {
		n = 10*n + uint64(s[size]-'0')
		size++
		if n > maxNumber {
			return 0, 0
		}
		if n == 0 {
			break
		}
	}
	return n, size
}

func writeFour(w api.Word) string {
	var b []byte
	for i := range numbers {
		if i > 0 {
			b = append(b, '.')
		}
		b = strconv.AppendUint(b, part(w, i, numberBits), 10)
	}
	return string(b)
}

// put lays v into the part i of a word in which no part has been laid twice; every part has so many bits.
func put(w api.Word, i, bits int, v uint64) api.Word {
	return word.Or(w, word.Shl(api.Word{Lo: v}, api.W6-bits*(i+1)))
}

// part tells what put has laid.
func part(w api.Word, i, bits int) uint64 {
	v, _ := word.Field(w, bits*i, bits)
	return v.Lo
}
