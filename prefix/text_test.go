package prefix

import (
	"encoding/binary"
	"fmt"
	"net/netip"
	"strings"
	"testing"

	"turnpike/api"
)

// reads asks that Parse reads the prefix.
func reads(t *testing.T, family int, s string, want api.Prefix) {
	t.Helper()
	if p, e := Parse(family, s); e != api.OK || p != want {
		t.Errorf("Parse(%d, %q) = %v, %v, want %v", family, s, p, e, want)
	}
}

// refuses asks that Parse answers the error, and the zero prefix beside it.
func refuses(t *testing.T, family int, s string, want api.Errno) {
	t.Helper()
	if p, e := Parse(family, s); e != want || p != (api.Prefix{}) {
		t.Errorf("Parse(%d, %q) = %v, %v, want %v", family, s, p, e, want)
	}
}

func TestP306Parse(t *testing.T) {
	for s, want := range map[string]api.Prefix{
		"0.0.0.0/0":          {},
		"10.0.0.0/8":         {Addr: api.Word{Hi: 0x0a << 56}, Len: 8},
		"10.0.0.0/32":        {Addr: api.Word{Hi: 0x0a << 56}, Len: 32},
		"10.128.0.0/9":       {Addr: api.Word{Hi: 0x0a80 << 48}, Len: 9},
		"0.0.0.0/32":         {Len: 32},
		"0.0.0.0/10":         {Len: 10},
		"0.0.0.0/20":         {Len: 20},
		"128.0.0.0/1":        {Addr: api.Word{Hi: 1 << 63}, Len: 1},
		"255.255.255.255/32": {Addr: lastFour, Len: 32},
		"255.255.255.254/31": {Addr: api.Word{Hi: 0xfffffffe << 32}, Len: 31},
	} {
		reads(t, 32, s, want)
	}
	for s, want := range map[string]api.Prefix{
		"::/0":                {},
		"::/128":              {Len: 128},
		"::/100":              {Len: 100},
		"0:0:0:0:0:0:0:0/0":   {},
		"2001:db8::/32":       {Addr: api.Word{Hi: 0x20010db8 << 32}, Len: 32},
		"2001:0DB8:0::/99":    {Addr: api.Word{Hi: 0x20010db8 << 32}, Len: 99},
		"::1/128":             {Addr: api.Word{Lo: 1}, Len: 128},
		"8000::/1":            {Addr: api.Word{Hi: 1 << 63}, Len: 1},
		"::ffff:1.2.3.0/120":  {Addr: api.Word{Lo: 0xffff01020300}, Len: 120},
		"0:0:0:1::/64":        {Addr: api.Word{Hi: 1}, Len: 64},
		"::8000:0:0:0/65":     {Addr: api.Word{Lo: 1 << 63}, Len: 65},
		"1:2:3:4:5:6:7:8/128": {Addr: api.Word{Hi: 0x0001000200030004, Lo: 0x0005000600070008}, Len: 128},
	} {
		reads(t, 128, s, want)
	}
}

func TestP306ParseRefusesForms(t *testing.T) {
	for _, s := range []string{
		"", "/", "//", "8", "/8", "10.0.0.0", "10.0.0.0/", "10.0.0.0//8", "10.0.0.0/8/", "10.0.0.0/8/8", "/10.0.0.0/8", "8/10.0.0.0",
		"10.0.0.0/08", "10.0.0.0/008", "10.0.0.0/00", "10.0.0.0/000", "10.0.0.0/033", "10.0.0.0/0008", "10.0.0.0/0000",
		"10.0.0.0/1000", "10.0.0.0/9999", "10.0.0.0/99999999999999999999", "10.0.0.0/18446744073709551624",
		"10.0.0.0/+8", "10.0.0.0/-8", "10.0.0.0/-0", "10.0.0.0/-1", "10.0.0.0/8.0", "10.0.0.0/0x8", "10.0.0.0/a", "10.0.0.0/1a", "10.0.0.0/1_0",
		" 10.0.0.0/8", "10.0.0.0/8 ", "10.0.0.0 /8", "10.0.0.0/ 8", "10.0.0.0/8\n", "10.0.0.0/8\x00", "10.0.0.0\\8", "10.0.0.0/255.0.0.0", "10.0.0.0/８", "10.0.0.0/٨",
		"10.0.0/8", "10/8", "10.0.0.0.0/8", "010.0.0.0/8", "256.0.0.0/8", "10.0.0.0:80/8", "2001:db8::/32", "::/0", "::10.0.0.0/8",
		// Another form is ahead of another length, and of bits behind it.
		"10.0.0/33", "10.0.0.256/33", "10.0.0.1/08", "10.0.0.1", "10.0.0.1/", "10.0.0.1/0033",
	} {
		refuses(t, 32, s, api.ErrSyntax)
	}
	for _, s := range []string{
		"", "/", "::", "::/", ":/8", ":::/8", "1::2::3/8", "::/00", "::/01", "::/0128", "1:2:3:4:5:6:7:8/0125", "::/1280", "::/64/64", "::/+64", "::/-1", "::%eth0/64", "[::]/64",
		"1:2:3:4:5:6:7/8", "1:2:3:4:5:6:7:8:9/8", "12345::/16", "g::/16", "10.0.0.0/8", "1:2/129", "::1/00", "::/4f", "::/f",
	} {
		refuses(t, 128, s, api.ErrSyntax)
	}
	for _, family := range families {
		refuses(t, family, strings.Repeat("/", 1000), api.ErrSyntax)
		refuses(t, family, "0.0.0.0/"+strings.Repeat("0", 1000), api.ErrSyntax)
		refuses(t, family, "::/"+strings.Repeat("1", 1000), api.ErrSyntax)
	}
}

func TestP306ParseRefusesLengths(t *testing.T) {
	for n := range 1000 {
		four, six := fmt.Sprintf("0.0.0.0/%d", n), fmt.Sprintf("::/%d", n)
		if n <= 32 {
			reads(t, 32, four, api.Prefix{Len: n})
		} else {
			refuses(t, 32, four, api.ErrLen)
			// The length is ahead of bits behind it.
			refuses(t, 32, fmt.Sprintf("255.255.255.255/%d", n), api.ErrLen)
		}
		if n <= 128 {
			reads(t, 128, six, api.Prefix{Len: n})
		} else {
			refuses(t, 128, six, api.ErrLen)
			refuses(t, 128, fmt.Sprintf("1::1/%d", n), api.ErrLen)
		}
	}
}

func TestP306ParseRefusesHosts(t *testing.T) {
	refuses(t, 32, "10.0.0.1/8", api.ErrHost)
	refuses(t, 32, "128.0.0.0/0", api.ErrHost)
	refuses(t, 32, "10.128.0.0/8", api.ErrHost)
	refuses(t, 32, "10.0.0.1/31", api.ErrHost)
	refuses(t, 128, "::1/0", api.ErrHost)
	refuses(t, 128, "::1/127", api.ErrHost)
	refuses(t, 128, "2001:db8::/28", api.ErrHost)
	refuses(t, 128, "0:0:0:1::/63", api.ErrHost)
	for _, family := range families {
		for n := range family {
			for i := n; i < family; i++ {
				w := ofBits(fill("", i, "0") + "1")
				refuses(t, family, fmt.Sprintf("%v/%d", inLibrary(family, w), n), api.ErrHost)
			}
		}
	}
}

func TestP306NoFamily(t *testing.T) {
	for _, family := range noFamilies {
		for _, s := range []string{"", "/", "10.0.0.0/8", "10.0.0.0", "10.0.0.0/08", "10.0.0.0/999", "10.0.0.1/8", "::/0", "::1/0", "::/129"} {
			refuses(t, family, s, api.ErrFamily)
		}
		for _, p := range []api.Prefix{{}, {Len: -1}, {Len: 300}, {Addr: lastSix}, {Addr: lastSix, Len: 128}} {
			refusesText(t, family, p, api.ErrFamily)
		}
	}
}

// inLibrary is the library's address of a word.
func inLibrary(family int, w api.Word) netip.Addr {
	var b [16]byte
	binary.BigEndian.PutUint64(b[:8], w.Hi)
	binary.BigEndian.PutUint64(b[8:], w.Lo)
	if family == 32 {
		return netip.AddrFrom4([4]byte(b[:4]))
	}
	return netip.AddrFrom16(b)
}

// asLibrary asks that Parse takes a text just where Go's own library takes it as a prefix without bits behind it, and of that family.
func asLibrary(t *testing.T, family int, s string) bool {
	t.Helper()
	want, err := netip.ParsePrefix(s)
	taken := err == nil && want.Addr().BitLen() == family && want.Masked() == want
	p, e := Parse(family, s)
	if (e == api.OK) != taken {
		t.Errorf("Parse(%d, %q) = %v, %v, the library: %v, %v", family, s, p, e, want, err)
	}
	if taken && (p.Len != want.Bits() || inLibrary(family, p.Addr) != want.Addr()) {
		t.Errorf("Parse(%d, %q) = %v, the library: %v", family, s, p, want)
	}
	if !taken && p != (api.Prefix{}) {
		t.Errorf("Parse(%d, %q) = %v beside an error", family, s, p)
	}
	return taken
}

func TestP306EveryByte(t *testing.T) {
	for _, x := range []struct {
		family int
		s      string
	}{{32, "10.0.0.0/8"}, {32, "0.0.0.0/10"}, {32, "10.200.3.44/31"}, {128, "2001:db8::/32"}, {128, "::/100"}, {128, "::ffff:1.2.3.4/128"}} {
		if !asLibrary(t, x.family, x.s) {
			t.Errorf("%q is none", x.s)
		}
		for at := range len(x.s) + 1 {
			asLibrary(t, x.family, x.s[:at])
			asLibrary(t, x.family, x.s[at:])
			for c := range 256 {
				sign := string([]byte{byte(c)})
				asLibrary(t, x.family, x.s[:at]+sign+x.s[at:])
				if at < len(x.s) {
					asLibrary(t, x.family, x.s[:at]+sign+x.s[at+1:])
				}
			}
		}
	}
}

// lengths calls f with every row of at most n of these signs.
func lengths(signs string, n int, f func(s string)) {
	f("")
	if n == 0 {
		return
	}
	for i := range len(signs) {
		lengths(signs, n-1, func(s string) { f(signs[i:i+1] + s) })
	}
}

func TestP306AllLengths(t *testing.T) {
	taken := 0
	lengths("0123489/+-. ", 4, func(s string) {
		for family, head := range map[int]string{32: "0.0.0.0/", 128: "::/"} {
			if asLibrary(t, family, head+s) {
				taken++
			}
		}
	})
	if taken == 0 {
		t.Error("no row was a length")
	}
}

func TestP306Text(t *testing.T) {
	for _, family := range families {
		for _, p := range append(prefixes(family), pairs(family)...) {
			want := fmt.Sprintf("%v/%d", inLibrary(family, p.Addr), p.Len)
			if family == 128 && strings.HasPrefix(want, "::ffff:") && strings.Contains(want, ".") {
				// The library writes these addresses in another form than the document.
				continue
			}
			if s, e := Text(family, p); e != api.OK || s != want {
				t.Fatalf("Text(%d, %v) = %q, %v, want %q", family, p, s, e, want)
			}
		}
	}
	for want, p := range map[string]api.Prefix{
		"::/0": {}, "::/128": {Len: 128}, "2001:db8::/32": {Addr: api.Word{Hi: 0x20010db8 << 32}, Len: 32},
		"::ffff:102:304/128": {Addr: api.Word{Lo: 0xffff01020304}, Len: 128}, "ffff:ffff:ffff:ffff:ffff:ffff:ffff:ffff/128": {Addr: lastSix, Len: 128},
	} {
		if s, e := Text(128, p); e != api.OK || s != want {
			t.Errorf("Text(128, %v) = %q, %v, want %q", p, s, e, want)
		}
	}
	if s, e := Text(32, api.Prefix{}); e != api.OK || s != "0.0.0.0/0" {
		t.Errorf("Text of all = %q, %v", s, e)
	}
}

// refusesText asks that Text answers the error, and the empty text beside it.
func refusesText(t *testing.T, family int, p api.Prefix, want api.Errno) {
	t.Helper()
	if s, e := Text(family, p); e != want || s != "" {
		t.Errorf("Text(%d, %v) = %q, %v, want %v", family, p, s, e, want)
	}
}

func TestP306TextRefuses(t *testing.T) {
	for _, family := range families {
		for _, n := range noLens(family) {
			refusesText(t, family, api.Prefix{Len: n}, api.ErrLen)
			refusesText(t, family, api.Prefix{Addr: lastSix, Len: n}, api.ErrLen)
		}
		for n := range family {
			refusesText(t, family, api.Prefix{Addr: ofBits(fill("", n, "0") + "1"), Len: n}, api.ErrHost)
			refusesText(t, family, api.Prefix{Addr: lastSix, Len: n}, api.ErrHost)
		}
	}
	// A word that is no address has a bit behind every length, which is all that is said of it.
	refusesText(t, 32, api.Prefix{Addr: api.Word{Lo: 1}, Len: 32}, api.ErrHost)
	refusesText(t, 32, api.Prefix{Addr: api.Word{Hi: 1 << 31}, Len: 32}, api.ErrHost)
}
