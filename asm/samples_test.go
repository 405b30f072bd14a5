package asm

import (
	"encoding/hex"
	"fmt"
	"math"
	"regexp"
	"slices"
	"strconv"
	"strings"
	"testing"

	"turnpike/api"
)

// shape is what the chapters say of an instruction: its name, how its first word is written, the bounds of N.
type shape struct {
	name        string
	first       string
	least, most int
}

var shapes = []shape{
	{"extract", "010000%02x", 1, 24},
	{"index", "020000%02x", 1, 24},
	{"jump", "03%06x", 1, 1<<24 - 1},
	{"return", "0400%04x", 0, 65535},
}

// numbered and bare are the forms of lines: with a number, and words behind it; with a word's digits.
var (
	numbered = regexp.MustCompile(`^(extract|index|jump|return) (0|[1-9][0-9]{0,8})((?: [0-9a-f]{8})*)$`)
	bare     = regexp.MustCompile(`^word ([0-9a-f]{8})$`)
)

// shapeOf is the shape of a name.
func shapeOf(name string) shape {
	return shapes[slices.IndexFunc(shapes, func(s shape) bool { return s.name == name })]
}

// isMapBy tells whether words, by their digits, are a map of n: by its places as signs 0 and 1.
func isMapBy(words []string, n int) bool {
	if len(words) != max(1, 1<<n/32) {
		return false
	}
	w := digits(words[0], 16)
	places := fmt.Sprintf("%032b", w)
	return places[0] == '1' && (n >= 5 || !strings.Contains(places[1<<n:], "1"))
}

// lineBy reads a line, as the chapter says it: the digits of its bytes, or its error.
func lineBy(line string) (string, api.Errno) {
	if found := bare.FindStringSubmatch(line); found != nil {
		return found[1], api.OK
	}
	found := numbered.FindStringSubmatch(line)
	if found == nil || found[1] != "index" && found[3] != "" {
		return "", api.ErrWord
	}
	s, n := shapeOf(found[1]), digits(found[2], 10)
	if n < s.least || s.most < n {
		return "", api.ErrArg
	}
	words := strings.Fields(found[3])
	if found[1] == "index" && !isMapBy(words, n) {
		return "", api.ErrMap
	}
	return fmt.Sprintf(s.first, n) + strings.Join(words, ""), api.OK
}

// parseBy is Parse, as the chapter says it.
func parseBy(text string) ([]byte, api.Fault) {
	lines := strings.Split(text, "\n")
	if last := len(lines) - 1; lines[last] == "" {
		lines = lines[:last]
	}
	var all strings.Builder
	for k, line := range lines {
		s, e := lineBy(line)
		if e != api.OK {
			return nil, api.Fault{Err: e, Line: k + 1, Col: 1}
		}
		all.WriteString(s)
	}
	return unhex(all.String()), api.Fault{}
}

// instrBy is the line of the instruction that begins at the first one of some words, by their digits, and how many of them it has; 0: none begins.
func instrBy(words []string) (string, int) {
	for _, s := range shapes {
		if words[0][:2] != fmt.Sprintf(s.first, 0)[:2] {
			continue
		}
		n := digits(words[0][2:], 16)
		if n < s.least || s.most < n || fmt.Sprintf(s.first, n) != words[0] {
			return "", 0
		}
		line := s.name + " " + strconv.Itoa(n)
		if s.name != "index" {
			return line, 1
		}
		size := 1 + max(1, 1<<n/32)
		if size > len(words) || !isMapBy(words[1:size], n) {
			return "", 0
		}
		return line + " " + strings.Join(words[1:size], " "), size
	}
	return "", 0
}

// printBy is Print, as the chapter says it, of whole words.
func printBy(b []byte) string {
	var words []string
	for at := 0; at < len(b); at += 4 {
		words = append(words, hex.EncodeToString(b[at:at+4]))
	}
	var text strings.Builder
	for len(words) > 0 {
		line, size := instrBy(words)
		if size == 0 {
			line, size = "word "+words[0], 1
		}
		text.WriteString(line + "\n")
		words = words[size:]
	}
	return text.String()
}

// digits is the number of digits by a base.
func digits(s string, base int) int {
	n, err := strconv.ParseInt(s, base, 64)
	if err != nil {
		panic(err)
	}
	return int(n)
}

// unhex is the bytes of digits of sixteen; blanks between them are nothing.
func unhex(s string) []byte {
	b, err := hex.DecodeString(strings.ReplaceAll(s, " ", ""))
	if err != nil {
		panic(err)
	}
	return b
}

// counter makes numbers without a pattern, always the same ones.
func counter() func() uint64 {
	x := uint64(0x9e3779b97f4a7c15)
	return func() uint64 {
		x ^= x << 13
		x ^= x >> 7
		x ^= x << 17
		return x
	}
}

// upTo is a number from 0 on below most, without a pattern.
func upTo(next func() uint64, most int) int {
	return int(next() >> 11 % uint64(most))
}

// likelyWord is a word without a pattern of which a good part are instructions, or maps.
func likelyWord(next func() uint64) []byte {
	b := []byte{byte(upTo(next, 6)), 0, 0, byte(upTo(next, 27))}
	if upTo(next, 2) == 0 {
		b[3] %= 8
	}
	switch upTo(next, 8) {
	case 0:
		b[1] = byte(next() >> 9)
	case 1:
		b[2] = byte(next() >> 9)
	case 2, 3:
		b = []byte{byte(0x80 | next()>>9), byte(next() >> 9), byte(next() >> 9), byte(next() >> 9)}
	case 4, 5:
		b = []byte{byte(0x80 << upTo(next, 2)), 0, 0, 0}
	}
	return b
}

// likelyRow is a row of fewer than most such words.
func likelyRow(next func() uint64, most int) []byte {
	var b []byte
	for range upTo(next, most) {
		b = append(b, likelyWord(next)...)
	}
	return b
}

// mapWords are the digits of a map of n of which place 0 and the last one are set, a blank ahead of each word.
func mapWords(n int) string {
	w := make([]uint32, max(1, 1<<n/32))
	w[0] = 1 << 31
	last := 1<<n - 1
	w[last/32] |= 1 << (31 - last%32)
	var s strings.Builder
	for _, x := range w {
		fmt.Fprintf(&s, " %08x", x)
	}
	return s.String()
}

// rightLines are lines that are right: each form at its edges and between, maps of up to 128 words.
func rightLines() []string {
	l := []string{"word 00000000", "word ffffffff", "word 12345678", "word 9abcdef0", "word 04000009", "word 02000001", "word 80000000", "index 1 80000000", "index 4 ffff0000", "index 5 ffffffff", "index 6 80000000 00000000", "index 6 ffffffff ffffffff"}
	for _, s := range shapes {
		for _, n := range []int{0, 1, 2, 9, 10, 12, 23, 24, 99, 100, 255, 256, 999, 1000, 65535, 65536, 9999999, 10000000, 1<<24 - 1} {
			if n < s.least || s.most < n || s.name == "index" && n > 12 {
				continue
			}
			line := s.name + " " + strconv.Itoa(n)
			if s.name == "index" {
				line += mapWords(n)
			}
			l = append(l, line)
		}
	}
	return l
}

// guarded is a copy of a list with room behind it, and a function that tells whether both are as they were.
func guarded[T comparable](l []T, mark T) (handed []T, asItWas func() bool) {
	all := append(slices.Clone(l), mark, mark, mark, mark, mark, mark, mark, mark, mark)
	was := slices.Clone(all)
	return all[:len(l)], func() bool { return slices.Equal(all, was) }
}

// overwrite puts marks over all of a list, its spare room too.
func overwrite[T any](l []T, mark T) {
	l = l[:cap(l)]
	for i := range l {
		l[i] = mark
	}
}

// short is a text for a report: of a long one its begin.
func short(s string) string {
	if len(s) <= 200 {
		return strconv.Quote(s)
	}
	return strconv.Quote(s[:200]) + ".." + strconv.Itoa(len(s))
}

func TestSamplesAreSound(t *testing.T) {
	for _, line := range rightLines() {
		s, e := lineBy(line)
		if e != api.OK {
			t.Fatalf("%s: %v", short(line), e)
		}
		if !strings.HasPrefix(line, "word") && printBy(unhex(s)) != line+"\n" {
			t.Fatalf("%s is written as %s", short(line), short(printBy(unhex(s))))
		}
	}
	if n := digits("ffffffff", 16); n != math.MaxUint32 {
		t.Fatal(n)
	}
}
