package addr

import (
	"strconv"
	"strings"

	"turnpike/api"
)

const (
	groups      = 8 // of an address of the family 128
	groupBits   = 16
	groupDigits = 4

	between = ":"
	gapText = "::"
	none    = -1
)

// found is the groups of a text as they are read: count of them, and the gap stands ahead of the one of that number.
type found struct {
	list  [groups]uint64
	count int
	gap   int
}

// readSix reads groups; false: s is no such text.
func readSix(s string) (api.Word, bool) {
	f := found{gap: none}
	at := 0
	if strings.HasPrefix(s, gapText) {
		f.gap, at = 0, len(gapText)
	}
text:
	for at < len(s) {
		v, size := group(s[at:])
		rest := s[at+size:]
		switch {
		case strings.HasPrefix(rest, "."):
			// An address of the other family goes up to the end, or is none.
			if !f.addFour(s[at:]) {
				return api.Word{}, false
			}
			break text
		case size == 0 || !f.add(v):
			return api.Word{}, false
		}
		at += size
		switch {
		case rest == "":
			break text
		case f.gap == none && strings.HasPrefix(rest, gapText):
			f.gap = f.count
			at += len(gapText)
		case len(rest) > len(between) && strings.HasPrefix(rest, between):
			at += len(between)
		default:
			return api.Word{}, false
		}
	}
	return f.word()
}

// add takes one more group; false: there is no place for it.
func (f *found) add(v uint64) bool {
	if f.count == groups {
		return false
	}
	f.list[f.count] = v
	f.count++
	return true
}

// addFour takes a text of the family 32 as two groups.
func (f *found) addFour(s string) bool {
	w, ok := readFour(s)
	return ok && f.add(part(w, 0, groupBits)) && f.add(part(w, 1, groupBits))
}

// word lays the groups into a word: those behind the gap stand at its end. A gap stands for a group at least, so it is there if and only if groups lack.
func (f *found) word() (api.Word, bool) {
	if (f.gap == none) != (f.count == groups) {
		return api.Word{}, false
	}
	var w api.Word
	for i, v := range f.list[:f.count] {
		if f.gap != none && i >= f.gap {
			i += groups - f.count
		}
		w = put(w, i, groupBits, v)
	}
	return w, true
}

// group reads the digits that s begins with, as many as a group may have, and tells how many there are.
func group(s string) (v uint64, size int) {
	for size < len(s) && size < groupDigits {
		d, ok := digit(s[size])
		if !ok {
			break
		}
		v = v<<4 | d
		size++
	}
	return v, size
}

// digit tells the number of a digit of sixteen.
func digit(c byte) (uint64, bool) {
	switch {
	case '0' <= c && c <= '9':
		return uint64(c - '0'), true
	case 'A' <= c && c <= 'F':
		c += 'a' - 'A'
		fallthrough
	case 'a' <= c && c <= 'f':
		return uint64(c-'a') + 10, true
	}
	return 0, false
}

func writeSix(w api.Word) string {
	var l [groups]uint64
	for i := range l {
		l[i] = part(w, i, groupBits)
	}
	from, size := longestRow(l)
	if size < 2 {
		return join(l[:])
	}
	return join(l[:from]) + gapText + join(l[from+size:])
}

// longestRow tells the longest row of groups that are 0, of several the first.
func longestRow(l [groups]uint64) (from, size int) {
rows:
	for i := range l {
		for k := i; k < groups; k++ {
			if l[k] != 0 {
				continue rows
			}
			if k-i+1 > size {
				from, size = i, k-i+1
			}
		}
	}
	return from, size
}

func join(l []uint64) string {
	var b []byte
	for i, v := range l {
		if i > 0 {
			b = append(b, between...)
		}
		b = strconv.AppendUint(b, v, 16)
	}
	return string(b)
}
