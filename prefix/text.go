package prefix

import (
	"strconv"
	"strings"

	"turnpike/addr"
	"turnpike/api"
)

// maxDigits is how many digits a length may have, too great a one too.
const maxDigits = 3

// Parse reads a prefix, Text writes one.
func Parse(family int, s string) (api.Prefix, api.Errno) {
	// No address has a slash, so the first one parts it from the length; without one the length is empty, and is refused.
	head, tail, _ := strings.Cut(s, "/")
	w, e := addr.Parse(family, head)
	if e != api.OK {
		return api.Prefix{}, e
	}
	n, ok := length(tail)
	if !ok {
		return api.Prefix{}, api.ErrSyntax
	}
	p := api.Prefix{Addr: w, Len: n}
	if e := Check(family, p); e != api.OK {
		return api.Prefix{}, e
	}
	return p, api.OK
}

// length reads a prefix's length; false: it is none. Whether a family has so many bits is not asked.
func length(s string) (int, bool) {
	if s == "" || len(s) > maxDigits || s[0] == '0' && len(s) > 1 {
		return 0, false
	}
	n := 0
	for i := range len(s) {
		if s[i] < '0' || s[i] > '9' {
			return 0, false
		}
		n = 10*n + int(s[i]-'0')
	}
	return n, true
}

func Text(family int, p api.Prefix) (string, api.Errno) {
	if e := Check(family, p); e != api.OK {
		return "", e
	}
	// A right prefix's word is an address of its family, so that this answers no error.
	s, _ := addr.Text(family, p.Addr)
	return s + "/" + strconv.Itoa(p.Len), api.OK
}
