package asm

import (
	"bytes"
	"fmt"
	"slices"
	"strings"
	"testing"

	"turnpike/api"
)

// isWritten asks that Print writes a row as it must, again too, and changes nothing.
func isWritten(t *testing.T, b []byte, want string) {
	t.Helper()
	handed, asItWas := guarded(b, 0x80)
	for range 2 {
		if s, e := Print(handed); s != want || e != api.OK {
			t.Fatalf("P1501: %x: %s, %v, want %s", b[:min(len(b), 60)], short(s), e, short(want))
		}
	}
	if !asItWas() {
		t.Fatalf("P2: %x is changed", b[:min(len(b), 60)])
	}
}

func TestP1501Examples(t *testing.T) {
	isWritten(t, unhex("01000001 02000001 C0000000 04000005 03000002"), "extract 1\nindex 1 c0000000\nreturn 5\njump 2\n")
	isWritten(t, unhex("FFFFFFFF"), "word ffffffff\n")
}

func TestP1501NoBytes(t *testing.T) {
	isWritten(t, nil, "")
	isWritten(t, []byte{}, "")
	isWritten(t, make([]byte, 0, 8), "")
}

// TestP1501NotWhole: bytes whose count is no multiple of four are refused, whatever they are.
func TestP1501NotWhole(t *testing.T) {
	whole := unhex("01000001 02000001 c0000000 04000005 03000002 ffffffff")
	for size := range len(whole) + 1 {
		if size%4 == 0 {
			isWritten(t, whole[:size], printBy(whole[:size]))
			continue
		}
		handed, asItWas := guarded(whole[:size], 0x80)
		if s, e := Print(handed); s != "" || e != api.ErrBounds || !asItWas() {
			t.Errorf("P1501: %d bytes: %q, %v", size, s, e)
		}
	}
	for _, size := range []int{1<<16 - 1, 1<<16 + 1, 1<<16 + 2} {
		if s, e := Print(make([]byte, size)); s != "" || e != api.ErrBounds {
			t.Errorf("P1501: %d bytes: %s, %v", size, short(s), e)
		}
	}
}

func TestP1501Edges(t *testing.T) {
	for _, x := range []struct{ code, text string }{
		{"01000001", "extract 1\n"}, {"01000018", "extract 24\n"}, {"01000000", "word 01000000\n"}, {"01000019", "word 01000019\n"}, {"01000101", "word 01000101\n"}, {"01010001", "word 01010001\n"},
		{"03000001", "jump 1\n"}, {"03ffffff", "jump 16777215\n"}, {"03000000", "word 03000000\n"}, {"03010203", "jump 66051\n"},
		{"04000000", "return 0\n"}, {"0400ffff", "return 65535\n"}, {"04010000", "word 04010000\n"}, {"04000102", "return 258\n"},
		{"02000001 80000000", "index 1 80000000\n"}, {"02000001 c0000000", "index 1 c0000000\n"}, {"02000004 ffff0000", "index 4 ffff0000\n"}, {"02000005 89abcdef", "index 5 89abcdef\n"},
		{"02000006 80000000 00000000", "index 6 80000000 00000000\n"}, {"02000006 fedcba98 76543210", "index 6 fedcba98 76543210\n"}, {"02000007 80000000 00000001 0000000a 000000f0", "index 7 80000000 00000001 0000000a 000000f0\n"},
		{"02000000 80000000", "word 02000000\nword 80000000\n"}, {"02000019 80000000", "word 02000019\nword 80000000\n"}, {"02000100 80000000", "word 02000100\nword 80000000\n"},
		{"00000000", "word 00000000\n"}, {"05000000", "word 05000000\n"}, {"10000001", "word 10000001\n"}, {"ff000001", "word ff000001\n"}, {"0000000a", "word 0000000a\n"}, {"12345678", "word 12345678\n"}, {"9abcdef0", "word 9abcdef0\n"},
	} {
		isWritten(t, unhex(x.code), x.text)
	}
}

// TestP1501NoInstruction: words at which none begins, ahead of instructions, between them and at the end; behind such a word the next one follows, whatever it is.
func TestP1501NoInstruction(t *testing.T) {
	for _, x := range []struct{ code, text string }{
		{"00000000 04000001", "word 00000000\nreturn 1\n"},
		{"04000001 00000000 04000002", "return 1\nword 00000000\nreturn 2\n"},
		{"04000001 ffffffff ffffffff 04000002", "return 1\nword ffffffff\nword ffffffff\nreturn 2\n"},
		{"04000001 ffffffff", "return 1\nword ffffffff\n"},
		{"02000001", "word 02000001\n"},
		{"04000001 02000001", "return 1\nword 02000001\n"},
		{"02000006 80000000", "word 02000006\nword 80000000\n"},
		{"02000018 80000000 04000001", "word 02000018\nword 80000000\nreturn 1\n"},
		{"02000006 04000001", "word 02000006\nreturn 1\n"},
		{"02000001 20000000", "word 02000001\nword 20000000\n"},
		{"02000001 40000000 04000001", "word 02000001\nword 40000000\nreturn 1\n"},
		{"02000001 e0000000", "word 02000001\nword e0000000\n"},
		{"02000004 ffff8000", "word 02000004\nword ffff8000\n"},
		{"02000001 04000009", "word 02000001\nreturn 9\n"},
		{"02000001 02000001 c0000000", "word 02000001\nindex 1 c0000000\n"},
		{"02000006 02000001 c0000000", "word 02000006\nindex 1 c0000000\n"},
		{"02000006 80000000 04000001 04000002", "index 6 80000000 04000001\nreturn 2\n"},
		{"02000006 80000000 02000001 c0000000", "index 6 80000000 02000001\nword c0000000\n"},
		{"00000000 02000001 c0000000 00000000", "word 00000000\nindex 1 c0000000\nword 00000000\n"},
		{"04010000 04000001", "word 04010000\nreturn 1\n"},
	} {
		isWritten(t, unhex(x.code), x.text)
	}
}

// TestP1501Maps: maps of each N up to MaxBits, whole, and cut off by a word.
func TestP1501Maps(t *testing.T) {
	for n := 1; n <= api.MaxBits; n++ {
		line := fmt.Sprintf("index %d%s", n, mapWords(n))
		s, e := lineBy(line)
		if e != api.OK {
			t.Fatal(n, e)
		}
		b := unhex(s)
		isWritten(t, b, line+"\n")
		isWritten(t, slices.Concat(unhex("04000001"), b, unhex("04000002")), "return 1\n"+line+"\nreturn 2\n")
		cut := b[:len(b)-4]
		isWritten(t, cut, printBy(cut))
		if s, e := Print(cut); !strings.HasPrefix(s, fmt.Sprintf("word 020000%02x\n", n)) || strings.Contains(s, "index") || e != api.OK {
			t.Errorf("P1501: a map of %d cut off: %s, %v", n, short(s), e)
		}
	}
}

func TestP1501Numbers(t *testing.T) {
	for _, s := range shapes {
		if s.name == "index" {
			continue
		}
		for n := s.least; n <= s.most; n += 1 + n/500 {
			isWritten(t, unhex(fmt.Sprintf(s.first, n)), fmt.Sprintf("%s %d\n", s.name, n))
		}
		isWritten(t, unhex(fmt.Sprintf(s.first, s.most)), fmt.Sprintf("%s %d\n", s.name, s.most))
	}
}

func TestP1501ManyRows(t *testing.T) {
	next := counter()
	count := map[string]int{}
	for range 30000 {
		b := likelyRow(next, 12)
		want := printBy(b)
		isWritten(t, b, want)
		for _, line := range strings.Split(want, "\n") {
			name, _, _ := strings.Cut(line, " ")
			count[name]++
		}
	}
	for _, name := range []string{"extract", "index", "jump", "return", "word"} {
		if count[name] < 300 {
			t.Errorf("only %d of %s", count[name], name)
		}
	}
}

// TestP1501GreatMapsThatAreNone: each of very many words says that a map of 2^24 places follows; that none does must be told by few of its words.
func TestP1501GreatMapsThatAreNone(t *testing.T) {
	const words = 1 << 20
	s, e := Print(bytes.Repeat(unhex("02000018"), words))
	if s != strings.Repeat("word 02000018\n", words) || e != api.OK {
		t.Errorf("P1501: %s, %v", short(s), e)
	}
}
