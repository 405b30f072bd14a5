package addr

import (
	"fmt"
	"strings"
	"testing"

	"turnpike/api"
)

// textIs asks that Text writes just that.
func textIs(t *testing.T, family int, w api.Word, want string) {
	t.Helper()
	if s, e := Text(family, w); e != api.OK || s != want {
		t.Errorf("Text(%d, %x) = %q, %v, want %q", family, w, s, e, want)
	}
}

func TestP204Four(t *testing.T) {
	for _, w := range samples(32) {
		textIs(t, 32, w, inLibrary(32, w).String())
	}
	textIs(t, 32, api.Word{}, "0.0.0.0")
	textIs(t, 32, lastFour, "255.255.255.255")
	textIs(t, 32, api.Word{Hi: 0x0a000001 << 32}, "10.0.0.1")
	for n := range 256 {
		textIs(t, 32, api.Word{Hi: uint64(n) << 40}, fmt.Sprintf("0.0.%d.0", n))
	}
}

func TestP204TooWide(t *testing.T) {
	for _, w := range []api.Word{{Lo: 1}, {Hi: 1}, {Hi: 1 << 31}, {Hi: 0x0a000001<<32 | 1}, {Lo: 1 << 63}, lastSix} {
		if s, e := Text(32, w); e != api.ErrWide || s != "" {
			t.Errorf("Text(32, %x) = %q, %v, want ErrWide", w, s, e)
		}
	}
}

func TestP204Six(t *testing.T) {
	for s, want := range map[string]string{
		"0:0:0:0:0:0:0:0":                 "::",
		"0:0:0:0:0:0:0:1":                 "::1",
		"1:0:0:0:0:0:0:0":                 "1::",
		"1:2:3:4:5:6:7:8":                 "1:2:3:4:5:6:7:8",
		"0001:00AB:0:0:1:2:3:4":           "1:ab::1:2:3:4",
		"1:0:0:2:0:0:0:3":                 "1:0:0:2::3",   // the longest one
		"1:0:0:0:2:0:0:3":                 "1::2:0:0:3",   //
		"1:0:0:2:0:0:3:4":                 "1::2:0:0:3:4", // the first of two as long
		"0:0:1:0:0:1:0:0":                 "::1:0:0:1:0:0",
		"1:0:0:1:0:0:0:0":                 "1:0:0:1::",
		"0:0:0:1:1:0:0:0":                 "::1:1:0:0:0",
		"1:0:2:3:4:5:6:7":                 "1:0:2:3:4:5:6:7", // a single one
		"0:1:2:3:4:5:6:7":                 "0:1:2:3:4:5:6:7",
		"1:2:3:4:5:6:7:0":                 "1:2:3:4:5:6:7:0",
		"0:1:0:1:0:1:0:1":                 "0:1:0:1:0:1:0:1",
		"0:1:0:0:1:0:1:0":                 "0:1::1:0:1:0",
		"0:0:2:3:4:5:6:7":                 "::2:3:4:5:6:7",
		"1:2:3:4:5:6:0:0":                 "1:2:3:4:5:6::",
		"::ffff:1.2.3.4":                  "::ffff:102:304",
		"FEDC:BA98:7654:3210:F:FF:FFF:10": "fedc:ba98:7654:3210:f:ff:fff:10",
	} {
		w, e := Parse(128, s)
		if e != api.OK {
			t.Errorf("Parse(128, %q): %v", s, e)
		}
		textIs(t, 128, w, want)
	}
	textIs(t, 128, lastSix, "ffff"+strings.Repeat(":ffff", 7))
}

func TestP204AllRowsOfNoughts(t *testing.T) {
	for set := range 256 {
		for _, v := range []uint64{1, 0xf, 0x10, 0xfffe, 0xabc} {
			var w api.Word
			for i := range 4 {
				if set>>i&1 == 1 {
					w.Hi |= v << (48 - 16*i)
				}
				if set>>(i+4)&1 == 1 {
					w.Lo |= v << (48 - 16*i)
				}
			}
			textIs(t, 128, w, inLibrary(128, w).String())
		}
	}
	for _, w := range samples(128) {
		if a := inLibrary(128, w); !a.Is4In6() {
			textIs(t, 128, w, a.String())
		}
	}
}

func TestP205ParseOfText(t *testing.T) {
	for _, family := range families {
		for _, w := range samples(family) {
			s, e := Text(family, w)
			if e != api.OK {
				t.Fatalf("Text(%d, %x): %v", family, w, e)
			}
			reads(t, family, s, w)
		}
	}
}

func TestP205TextOfWhatIsRead(t *testing.T) {
	for _, s := range []string{
		"::", "0::", "::0", "0:0::0", "1::", "::1", "1:2:3:4:5:6:7::", "::2:3:4:5:6:7:8", "::ffff:1.2.3.4", "0:0:0:0:0:0:1.2.3.4",
		"000A:0B:c::D", "1:0:0:2:0:0:0:3", "1:0:2:3:4:5:6:7", "FFFF::",
	} {
		w, e := Parse(128, s)
		if e != api.OK {
			t.Fatalf("Parse(128, %q): %v", s, e)
		}
		x, e := Text(128, w)
		if e != api.OK {
			t.Fatalf("Text(128, %x): %v", w, e)
		}
		reads(t, 128, x, w)
	}
	for _, s := range []string{"0.0.0.0", "1.2.3.4", "100.0.20.255"} {
		w, _ := Parse(32, s)
		textIs(t, 32, w, s)
	}
}
