package asm

import (
	"bytes"
	"fmt"
	"slices"
	"strings"
	"testing"

	"turnpike/api"
)

// thereAndBack asks that Parse of Print is the code.
func thereAndBack(t *testing.T, b []byte) {
	t.Helper()
	s, e := Print(b)
	if e != api.OK {
		t.Fatalf("P1503: %x: %v", b[:min(len(b), 60)], e)
	}
	if back, f := Parse(s); !bytes.Equal(back, b) || f != (api.Fault{}) {
		t.Fatalf("P1503: %x: %x, %v", b[:min(len(b), 60)], back[:min(len(back), 60)], f)
	}
}

func TestP1503CodeAgain(t *testing.T) {
	next := counter()
	thereAndBack(t, nil)
	for range 100000 {
		thereAndBack(t, likelyRow(next, 12))
	}
	for range 2000 {
		thereAndBack(t, likelyRow(next, 200))
	}
	thereAndBack(t, likelyRow(next, 1<<18))
	for range 20000 {
		var b []byte
		for range 4 * upTo(next, 9) {
			b = append(b, byte(next()>>9))
		}
		thereAndBack(t, b)
	}
}

// TestP1503AllWords: single words, over all that there are.
func TestP1503AllWords(t *testing.T) {
	for w := uint64(0); w < 1<<32; w += 1 + w%8009 {
		thereAndBack(t, []byte{byte(w >> 24), byte(w >> 16), byte(w >> 8), byte(w)})
	}
}

// TestP1503Maps: maps of each N, whole and cut off at every word (of great ones at some).
func TestP1503Maps(t *testing.T) {
	for n := 1; n <= api.MaxBits; n++ {
		s, e := lineBy(fmt.Sprint("index ", n) + mapWords(n))
		if e != api.OK {
			t.Fatal(n, e)
		}
		b := unhex(s)
		for size := len(b); size >= 0; size -= 4 + len(b)/12/4*4 {
			thereAndBack(t, b[:size])
			thereAndBack(t, slices.Concat(b[:size], unhex("04000001"), b[:min(size, 40)]))
		}
	}
}

// TestP1503TextAgain: what Parse reads Print writes, where there is no line of a word alone, or where none makes an instruction.
func TestP1503TextAgain(t *testing.T) {
	next := counter()
	lines := slices.DeleteFunc(rightLines(), func(s string) bool {
		return strings.HasPrefix(s, "word 0") && s != "word 00000000"
	})
	for range 20000 {
		var text strings.Builder
		for range upTo(next, 9) {
			text.WriteString(lines[upTo(next, len(lines))] + "\n")
		}
		isWrittenAgain(t, text.String(), text.String())
	}
}

// isWrittenAgain asks that a text is read, and what it is written as; also without the byte 10 at its end.
func isWrittenAgain(t *testing.T, text, want string) {
	t.Helper()
	for _, s := range []string{text, strings.TrimSuffix(text, "\n")} {
		b, f := Parse(s)
		if f != (api.Fault{}) {
			t.Fatalf("P1503: %s: %v", short(s), f)
		}
		if again, e := Print(b); again != want || e != api.OK {
			t.Fatalf("P1503: %s: %s, %v", short(s), short(again), e)
		}
	}
}

// TestP1503WordsThatMakeInstructions: where a word, or words behind it, make an instruction, that is written.
func TestP1503WordsThatMakeInstructions(t *testing.T) {
	for _, x := range []struct{ text, again string }{
		{"word 04000009\n", "return 9\n"},
		{"word 01000001\nword 03000002\n", "extract 1\njump 2\n"},
		{"word 02000001\nword c0000000\n", "index 1 c0000000\n"},
		{"word 02000001\nword 20000000\n", "word 02000001\nword 20000000\n"},
		{"word 02000006\nword 80000000\nreturn 5\nreturn 6\n", "index 6 80000000 04000005\nreturn 6\n"},
		{"word 02000007\nword 80000000\nindex 1 c0000000\nindex 1 80000000\n", "index 7 80000000 02000001 c0000000 02000001\nword 80000000\n"},
		{"word 02000006\nword 80000000\nindex 1 c0000000\n", "index 6 80000000 02000001\nword c0000000\n"},
		{"word 02000006\nreturn 5\n", "word 02000006\nreturn 5\n"},
		{"word 02000006\nword 80000000\n", "word 02000006\nword 80000000\n"},
	} {
		isWrittenAgain(t, x.text, x.again)
	}
}

// TestP1503WrittenOnce: whatever Parse reads, what Print writes of it is read as the same, and written so again.
func TestP1503WrittenOnce(t *testing.T) {
	next := counter()
	lines := rightLines()
	for range 20000 {
		text := ""
		for range upTo(next, 7) {
			text += lines[upTo(next, len(lines))] + "\n"
		}
		b, f := Parse(text)
		if f != (api.Fault{}) {
			t.Fatalf("P1503: %s: %v", short(text), f)
		}
		once, _ := Print(b)
		isWrittenAgain(t, once, once)
		thereAndBack(t, b)
	}
}
