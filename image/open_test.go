package image

import (
	"encoding/binary"
	"math"
	"slices"
	"testing"

	"turnpike/api"
)

// TestP1702ByHand: the chapter's example, read again.
func TestP1702ByHand(t *testing.T) {
	b := bytesOf("54504b31 20 00 0001 00000001 eb1863bd 04000009")
	opensAs(t, b, 0, api.Header{W: 32, Depth: 0, Steps: 1, Words: 1}, bytesOf("04000009"), api.OK)
	b = bytesOf("070707 54504b31 80 80 0180 00000000 b50b8380 09")
	opensAs(t, b, 3, api.Header{W: 128, Depth: 128, Steps: 384, Words: 0}, nil, api.OK)
	isRefused(t, b, 2, api.ErrMagic)
	isRefused(t, b, 4, api.ErrMagic)
	isRefused(t, b, 5, api.ErrCut)
}

func TestP1702AsTheChapterSays(t *testing.T) {
	for _, x := range samples() {
		opensAs(t, framed(x.h, x.code), 0, x.h, x.code, api.OK)
	}
}

// TestP1702Bounds: places that are none, of rows short and long.
func TestP1702Bounds(t *testing.T) {
	whole := framed(api.Header{W: 32, Steps: 1, Words: 1}, bytesOf("04000009"))
	for size := range len(whole) + 1 {
		b := whole[:size]
		for _, at := range []int{math.MinInt, math.MinInt + 1, -1 << 32, -20, -16, -2, -1, size + 1, size + 2, size + 16, size + 20, 1 << 31, 1 << 32, math.MaxInt - 16, math.MaxInt - 15, math.MaxInt - 1, math.MaxInt} {
			isRefused(t, b, at, api.ErrBounds)
		}
		// At the row's own length no byte stands, but the place is one.
		isRefused(t, b, size, api.ErrCut)
	}
	isRefused(t, nil, 0, api.ErrCut)
	isRefused(t, nil, 1, api.ErrBounds)
	isRefused(t, nil, -1, api.ErrBounds)
}

// TestP1702ShortHead: fewer than sixteen bytes, whatever they are.
func TestP1702ShortHead(t *testing.T) {
	for _, b := range [][]byte{make([]byte, 15), []byte("TPK1"), bytesOf("54504b31 20 00 0001 00000000 000000"), framed(api.Header{W: 32, Steps: 1}, nil)[:15], []byte("XPK1"), {1}} {
		isRefused(t, b, 0, api.ErrCut)
		for at := range 40 {
			isRefused(t, slices.Concat(make([]byte, at), b), at, api.ErrCut)
		}
	}
	isRefused(t, make([]byte, 16), 0, api.ErrMagic)
	isRefused(t, make([]byte, 40), 24, api.ErrMagic)
	isRefused(t, make([]byte, 40), 25, api.ErrCut)
	h := api.Header{W: 32, Steps: 1}
	opensAs(t, framed(h, nil), 0, h, nil, api.OK)
}

// TestP1702Magic: each of the first four bytes each other one, alone and with all that may be wrong behind it.
func TestP1702Magic(t *testing.T) {
	code := bytesOf("04000009")
	for _, h := range []api.Header{{W: 32, Steps: 1, Words: 1}, {W: 33, Steps: 1, Words: 1}, {W: 32, Depth: 33, Steps: 1, Words: 1}, {W: 128, Steps: 1, Words: math.MaxUint32}, {W: 128, Steps: 1, Words: 2}} {
		for i := range 4 {
			for other := range 256 {
				b := framed(h, code)
				if b[i] == byte(other) {
					continue
				}
				b[i] = byte(other)
				isRefused(t, b, 0, api.ErrMagic)
				// The sum made right again changes nothing.
				binary.BigEndian.PutUint32(b[12:], sumOf(slices.Concat(b[:12], code)...))
				isRefused(t, b, 0, api.ErrMagic)
			}
		}
	}
	for _, s := range []string{"1KPT", "tpk1", "PTK1", "TPK2", "TPK\x00", "\x00\x00\x00\x00"} {
		b := framed(api.Header{W: 32, Steps: 1, Words: 1}, code)
		copy(b, s)
		isRefused(t, b, 0, api.ErrMagic)
	}
}

// TestP1702HeadNumbers: all families and depths that a byte can be, with the steps at the edges, the sum right and wrong.
func TestP1702HeadNumbers(t *testing.T) {
	code := bytesOf("04000009")
	for family := range 256 {
		for depth := range 256 {
			l := []int{3 * depth}
			if slices.Contains(families, family) {
				l = append(l, 0, 1, 2, depth, 3*depth+1, 3*depth+1<<15, 3*depth+256, 3*depth<<8, math.MaxUint16)
			}
			for _, steps := range l {
				b := framed(api.Header{W: family, Depth: depth, Steps: steps, Words: 1}, code)
				opensByTheWords(t, b, 0)
			}
		}
	}
	for _, family := range families {
		for _, depth := range []int{0, 1, 32, 33, 128, 129} {
			for steps := range 1 << 16 {
				opensByTheWords(t, framed(api.Header{W: family, Depth: depth, Steps: steps, Words: 1}, code), 0)
			}
		}
	}
}

// TestP1702Order: where several errors are due, the first one that the promise names.
func TestP1702Order(t *testing.T) {
	code := bytesOf("04000009")
	for _, x := range []struct {
		h        api.Header
		badSum   bool
		want     api.Errno
		whatElse string
	}{
		{api.Header{W: 31, Depth: 0, Steps: 1, Words: 1}, false, api.ErrFamily, ""},
		{api.Header{W: 31, Depth: 0, Steps: 0, Words: 1 << 30}, true, api.ErrFamily, "steps, size, sum"},
		{api.Header{W: 0, Depth: 0, Steps: 1, Words: 2}, true, api.ErrFamily, "cut"},
		{api.Header{W: 32, Depth: 0, Steps: 0, Words: 1}, false, api.ErrSteps, ""},
		{api.Header{W: 32, Depth: 33, Steps: 99, Words: 1 << 30}, true, api.ErrSteps, "size, cut, sum"},
		{api.Header{W: 128, Depth: 1, Steps: 1, Words: 2}, true, api.ErrSteps, "cut"},
		{api.Header{W: 128, Depth: 1, Steps: 2, Words: 1}, true, api.ErrSteps, "sum"},
		{api.Header{W: 32, Depth: 0, Steps: 1, Words: mostWords + 1}, false, api.ErrSize, "cut"},
		{api.Header{W: 32, Depth: 0, Steps: 1, Words: math.MaxUint32}, true, api.ErrSize, "cut, sum"},
		{api.Header{W: 32, Depth: 0, Steps: 1, Words: mostWords}, true, api.ErrCut, "sum"},
		{api.Header{W: 32, Depth: 0, Steps: 1, Words: 2}, false, api.ErrCut, ""},
		{api.Header{W: 32, Depth: 0, Steps: 1, Words: 1}, true, api.ErrSum, ""},
		{api.Header{W: 32, Depth: 0, Steps: 1, Words: 1}, false, api.OK, ""},
	} {
		b := framed(x.h, code)
		if x.badSum {
			b[13]++
		}
		if _, _, e := Open(b, 0); e != x.want {
			t.Errorf("P1702: %v: %v, want %v ahead of: %s", x.h, e, x.want, x.whatElse)
		}
		opensByTheWords(t, b, 0)
		opensByTheWords(t, slices.Concat(make([]byte, 9), b), 9)
	}
}

// TestP1702Size: words up to those of the longest image, and more, of rows that have them and that have not.
func TestP1702Size(t *testing.T) {
	long := someBytes(counter(), 4*mostWords+8)
	for _, family := range families {
		for _, words := range []int{mostWords - 1, mostWords, mostWords + 1, mostWords + 2} {
			h := api.Header{W: family, Depth: 1, Steps: 3, Words: words}
			b := framed(h, long[:4*words])
			if words <= mostWords {
				opensAs(t, b, 0, h, long[:4*words], api.OK)
				isRefused(t, b[:len(b)-1], 0, api.ErrCut)
			} else {
				isRefused(t, b, 0, api.ErrSize)
				isRefused(t, b[:len(b)-1], 0, api.ErrSize)
			}
		}
		for _, words := range []int{mostWords + 1, 1 << 20, 1<<20 + 1, 1 << 24, 1 << 29, 1 << 30, 1<<30 + 1, 1 << 31, 1<<31 + 1, 3 << 30, 3<<30 + 1, math.MaxUint32 - 4, math.MaxUint32 - 3, math.MaxUint32 - 1, math.MaxUint32} {
			// Four times some of these, and sixteen, wraps round in 32 bits to the bytes that stand there.
			for _, size := range []int{0, 4, 8, 400} {
				isRefused(t, framed(api.Header{W: family, Steps: 1, Words: words}, long[:size]), 0, api.ErrSize)
			}
		}
	}
}

// TestP1702Cut: code that does not wholly stand in the row.
func TestP1702Cut(t *testing.T) {
	next := counter()
	for _, family := range families {
		for words := range 6 {
			code := someBytes(next, 4*words)
			h := headerOf(family, words, code)
			whole := framed(h, code)
			for size := range len(whole) {
				isRefused(t, whole[:size], 0, api.ErrCut)
				isRefused(t, slices.Concat(bytesOf("54504b31 20"), whole[:size]), 5, api.ErrCut)
			}
			opensAs(t, whole, 0, h, code, api.OK)
			// What is cut off still stands in the row's spare room, where it is not asked.
			isRefused(t, whole[:len(whole)-1:len(whole)], 0, api.ErrCut)
		}
	}
}

// TestP1702Sum: each byte of the sum and of the code each other one.
func TestP1702Sum(t *testing.T) {
	code := bytesOf("01000001 02000001 c0000000")
	whole := framed(headerOf(32, 1, code), code)
	for i := 12; i < len(whole); i++ {
		for other := range 256 {
			if whole[i] == byte(other) {
				continue
			}
			b := slices.Clone(whole)
			b[i] = byte(other)
			isRefused(t, b, 0, api.ErrSum)
		}
	}
	for _, sum := range []uint32{0, math.MaxUint32, sumOf(code...), sumOf(whole[:12]...), sumOf(whole...), ^sumOf(slices.Concat(whole[:12], code)...)} {
		b := slices.Clone(whole)
		binary.BigEndian.PutUint32(b[12:], sum)
		isRefused(t, b, 0, api.ErrSum)
	}
	// The sum's bytes, the lowest first.
	b := slices.Clone(whole)
	slices.Reverse(b[12:16])
	isRefused(t, b, 0, api.ErrSum)
}

// TestP1702Places: every place of rows in which images stand, whole and spoilt, near one another and within one another.
func TestP1702Places(t *testing.T) {
	next := counter()
	for range 200 {
		b := someRow(next)
		for at := -2; at <= len(b)+2; at++ {
			opensByTheWords(t, b, at)
		}
	}
}

// someRow is images, parts of them and spoilt ones, and other bytes, in some order.
func someRow(next func() uint64) []byte {
	var b []byte
	for range upTo(next, 6) {
		family := families[upTo(next, 2)]
		code := someBytes(next, 4*upTo(next, 20))
		if upTo(next, 4) == 0 {
			code = framed(headerOf(32, 1, code), code)
		}
		x := framed(headerOf(family, upTo(next, family+1), code), code)
		switch upTo(next, 6) {
		case 0:
			x = x[:upTo(next, len(x))]
		case 1:
			x = x[upTo(next, len(x)):]
		case 2, 3:
			x[upTo(next, len(x))] ^= 1 << upTo(next, 8)
		case 4:
			x = someBytes(next, upTo(next, 30))
		}
		b = append(b, x...)
	}
	return b
}
