package word

import (
	"fmt"
	"strings"
	"testing"

	"turnpike/api"
)

const counted = "0123456789abcdeffedcba9876543210"

func TestP106Text(t *testing.T) {
	for _, w := range samples() {
		if want := fmt.Sprintf("%016x%016x", w.Hi, w.Lo); Text(w) != want {
			t.Fatalf("Text of %x: %q, want %q", w, Text(w), want)
		}
	}
	if Text(api.Word{}) != strings.Repeat("0", 32) || Text(ones) != strings.Repeat("f", 32) {
		t.Error("the word 0, or all ones")
	}
}

func TestP106Parse(t *testing.T) {
	if w, e := Parse(counted); e != api.OK || w != (api.Word{Hi: 0x0123456789abcdef, Lo: 0xfedcba9876543210}) {
		t.Errorf("Parse(%q) = %x, %v", counted, w, e)
	}
	if w, e := Parse(strings.Repeat("f", 32)); e != api.OK || w != ones {
		t.Errorf("32 times f: %x, %v", w, e)
	}
}

// refused asks that Parse answers ErrSyntax, and the zero word beside it.
func refused(t *testing.T, s string) {
	t.Helper()
	if w, e := Parse(s); e != api.ErrSyntax || w != (api.Word{}) {
		t.Fatalf("Parse(%q) = %x, %v, want ErrSyntax", s, w, e)
	}
}

func TestP106ParseRefusesLengths(t *testing.T) {
	for n := range 200 {
		if n != 32 {
			refused(t, strings.Repeat("1", n))
		}
	}
	refused(t, "0x"+counted)
	refused(t, counted+"\n")
	refused(t, " "+counted)
	refused(t, counted[:16]+" "+counted[16:])
}

func TestP106ParseRefusesBytes(t *testing.T) {
	for c := range 256 {
		if strings.IndexByte("0123456789abcdef", byte(c)) >= 0 {
			continue
		}
		for _, at := range []int{0, 1, 15, 16, 31} {
			b := []byte(counted)
			b[at] = byte(c)
			refused(t, string(b))
		}
	}
	// As many bytes as there must be, fewer signs; and as many signs, more bytes.
	refused(t, strings.Repeat("é", 16))
	refused(t, strings.Repeat("é", 32))
	refused(t, "-"+counted[1:])
	refused(t, "0x"+counted[2:])
}

func TestP108ParseOfText(t *testing.T) {
	for _, w := range samples() {
		if back, e := Parse(Text(w)); e != api.OK || back != w {
			t.Fatalf("Parse of Text of %x: %x, %v", w, back, e)
		}
	}
	for i := range 128 {
		w := fromBits(func(k int) int {
			if k == i {
				return 1
			}
			return 0
		})
		if back, e := Parse(Text(w)); e != api.OK || back != w {
			t.Fatalf("bit %d alone: %x, %v", i, back, e)
		}
	}
}
