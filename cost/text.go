package cost

import (
	"math/bits"

	"turnpike/api"
)

const (
	base      = 10
	maxDigits = 58 // of 2^192 - 1
)

// Text writes decimal digits, Parse reads them.
func Text(a api.Cost) string {
	if a == (api.Cost{}) {
		return "0"
	}
	var digits [maxDigits]byte
	from := len(digits)
	for a != (api.Cost{}) {
		var digit uint64
		a, digit = tenth(a)
		from--
		digits[from] = '0' + byte(digit)
	}
	return string(digits[from:])
}

// tenth is a tenth of a number, and what is left of it.
func tenth(a api.Cost) (part api.Cost, left uint64) {
	for i := range parts {
		part[i], left = bits.Div64(left, a[i], base)
	}
	return part, left
}

func Parse(s string) (api.Cost, api.Errno) {
	if !isNumber(s) {
		return api.Cost{}, api.ErrSyntax
	}
	var a api.Cost
	for i := range len(s) {
		longer, over := times(a, base, uint64(s[i]-'0'))
		if over != 0 {
			return api.Cost{}, api.ErrWide
		}
		a = longer
	}
	return a, api.OK
}

// isNumber tells whether s is digits, none of them a nought ahead of others. All of s is looked at ahead of its number, for a text that is none is refused as such, however great a number it begins with.
func isNumber(s string) bool {
	if s == "" || s[0] == '0' && s != "0" {
		return false
	}
	for i := range len(s) {
		if s[i] < '0' || s[i] > '9' {
			return false
		}
	}
	return true
}
