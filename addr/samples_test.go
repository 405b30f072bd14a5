package addr

import (
	"encoding/binary"
	"math"
	"net/netip"
	"testing"

	"turnpike/api"
)

var (
	families = []int{32, 128}
	// noFamilies are numbers that are no family, those beside one and far off among them.
	noFamilies = []int{math.MinInt, -128, -32, -1, 0, 1, 16, 31, 33, 64, 96, 127, 129, 160, 256, math.MaxInt}
	lastFour   = api.Word{Hi: 0xffffffff << 32}
	lastSix    = api.Word{Hi: math.MaxUint64, Lo: math.MaxUint64}
)

// counter makes words without a pattern, always the same ones.
func counter() func() uint64 {
	x := uint64(0x9e3779b97f4a7c15)
	return func() uint64 {
		x ^= x << 13
		x ^= x >> 7
		x ^= x << 17
		return x
	}
}

// samples are addresses of a family: both ends, single bits, what lies beside them, and some without a pattern.
func samples(family int) []api.Word {
	l := []api.Word{{}}
	for i := range family {
		bit := api.Word{Lo: 1 << (127 - max(i, 64))}
		if i < 64 {
			bit = api.Word{Hi: 1 << (63 - i)}
		}
		l = append(l, bit)
	}
	next := counter()
	for range 200 {
		w := api.Word{Hi: next(), Lo: next()}
		if family == 32 {
			w = api.Word{Hi: w.Hi >> 32 << 32}
		}
		l = append(l, w)
	}
	if family == 32 {
		return append(l, lastFour, api.Word{Hi: 0xfffffffe << 32}, api.Word{Hi: 0x0a000001 << 32})
	}
	return append(l, lastSix, api.Word{Hi: 1, Lo: math.MaxUint64}, api.Word{Lo: math.MaxUint64}, api.Word{Hi: math.MaxUint64})
}

// ofLibrary is what Go's own library reads of a text; it has the same forms of addresses, but for zones.
func ofLibrary(family int, s string) (api.Word, bool) {
	a, err := netip.ParseAddr(s)
	if err != nil || a.Zone() != "" || a.BitLen() != family {
		return api.Word{}, false
	}
	b := a.As16()
	if family == 32 {
		return api.Word{Hi: uint64(binary.BigEndian.Uint32(b[12:])) << 32}, true
	}
	return api.Word{Hi: binary.BigEndian.Uint64(b[:8]), Lo: binary.BigEndian.Uint64(b[8:])}, true
}

// inLibrary is the library's address of a word.
func inLibrary(family int, w api.Word) netip.Addr {
	var b [16]byte
	binary.BigEndian.PutUint64(b[:8], w.Hi)
	binary.BigEndian.PutUint64(b[8:], w.Lo)
	if family == 32 {
		return netip.AddrFrom4([4]byte(b[:4]))
	}
	return netip.AddrFrom16(b)
}

// reads asks that Parse reads the word.
func reads(t *testing.T, family int, s string, want api.Word) {
	t.Helper()
	if w, e := Parse(family, s); e != api.OK || w != want {
		t.Errorf("Parse(%d, %q) = %x, %v, want %x", family, s, w, e, want)
	}
}

// refused asks that Parse answers ErrSyntax, and the word 0 beside it.
func refused(t *testing.T, family int, s string) {
	t.Helper()
	if w, e := Parse(family, s); e != api.ErrSyntax || w != (api.Word{}) {
		t.Errorf("Parse(%d, %q) = %x, %v, want ErrSyntax", family, s, w, e)
	}
}

// asLibrary asks that Parse reads what the library reads, and nothing else.
func asLibrary(t *testing.T, family int, s string) bool {
	t.Helper()
	want, ok := ofLibrary(family, s)
	if ok {
		reads(t, family, s, want)
	} else {
		refused(t, family, s)
	}
	return ok
}

// rows calls f with every row of at most n of the pieces.
func rows(pieces []string, n int, f func(s string)) {
	var grow func(s string, n int)
	grow = func(s string, n int) {
		f(s)
		if n == 0 {
			return
		}
		for _, p := range pieces {
			grow(s+p, n-1)
		}
	}
	grow("", n)
}
