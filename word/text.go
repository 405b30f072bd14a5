package word

import (
	"turnpike/api"
)

const digits = "0123456789abcdef"

// textLen is how many digits of four bits a word has.
const textLen = width / 4

// Text writes 32 digits of sixteen, Parse reads them.
func Text(w api.Word) string {
	var b [textLen]byte
	for i := range textLen {
		b[i] = digits[Shr(w, width-4-4*i).Lo&15]
	}
	return string(b[:])
}

func Parse(s string) (api.Word, api.Errno) {
	if len(s) != textLen {
		return api.Word{}, api.ErrSyntax
	}
	var w api.Word
	for i := range textLen {
		d, ok := digit(s[i])
		if !ok {
			return api.Word{}, api.ErrSyntax
		}
		w = Or(Shl(w, 4), api.Word{Lo: d})
	}
	return w, api.OK
}

// digit tells the number of a digit; capitals are none, for a word has one text alone.
func digit(c byte) (uint64, bool) {
	switch {
	case '0' <= c && c <= '9':
		return uint64(c - '0'), true
	case 'a' <= c && c <= 'f':
		return uint64(c-'a') + 10, true
	}
	return 0, false
}
