package wire

import (
	"bytes"
	"math"
	"math/big"
	"testing"

	"turnpike/api"
)

// numbers32 are numbers at the edges of bytes, single bits, and some without a pattern.
func numbers32() []uint32 {
	l := []uint32{0, 1, 2, 0xFE, 0xFF, 0x100, 258, 0xFFFE, 0xFFFF, 0x10000, 0xFFFFFF, 0x1000000, 0x01020304, 0x04030201, 0x7FFFFFFF, 0x80000000, 0xFFFFFFFE, full, 0xE3069283}
	for i := range 32 {
		l = append(l, 1<<i, full^1<<i)
	}
	next := counter()
	for range 2000 {
		l = append(l, uint32(next()>>13))
	}
	return l
}

// bytesOf is a number's bytes, the highest first, so many of them.
func bytesOf(n uint32, size int) []byte {
	return new(big.Int).SetUint64(uint64(n)).FillBytes(make([]byte, size))
}

// heads are rows behind which numbers are put.
func heads() [][]byte {
	next := counter()
	l := [][]byte{nil, {}, make([]byte, 0, 9), {9}, {0}, {255, 255}}
	for size := 3; size < 20; size++ {
		l = append(l, someBytes(next, size))
	}
	return append(l, someBytes(next, 1000))
}

func TestP1301ByHand(t *testing.T) {
	for _, x := range []struct{ got, want []byte }{
		{Put16(nil, 258), []byte{1, 2}}, {Put16([]byte{}, 0), []byte{0, 0}}, {Put16(nil, math.MaxUint16), []byte{255, 255}}, {Put16(nil, 1), []byte{0, 1}}, {Put16(nil, 256), []byte{1, 0}}, {Put16([]byte{9, 8}, 0x7FFE), []byte{9, 8, 0x7F, 0xFE}},
		{Put32(nil, 0x01020304), []byte{1, 2, 3, 4}}, {Put32(nil, 0), []byte{0, 0, 0, 0}}, {Put32(nil, full), []byte{255, 255, 255, 255}}, {Put32(nil, 1), []byte{0, 0, 0, 1}}, {Put32([]byte{9}, 0x80000000), []byte{9, 128, 0, 0, 0}},
	} {
		if !bytes.Equal(x.got, x.want) {
			t.Errorf("P1301: %x, want %x", x.got, x.want)
		}
	}
}

func TestP1301Put(t *testing.T) {
	for _, head := range heads() {
		for _, n := range numbers32() {
			if b, want := Put16(head, uint16(n)), append(bytes.Clone(head), bytesOf(n&0xFFFF, 2)...); !bytes.Equal(b, want) {
				t.Fatalf("P1301: Put16 of %d behind %x: %x, want %x", uint16(n), head, b, want)
			}
			if b, want := Put32(head, n), append(bytes.Clone(head), bytesOf(n, 4)...); !bytes.Equal(b, want) {
				t.Fatalf("P1301: Put32 of %d behind %x: %x, want %x", n, head, b, want)
			}
		}
	}
}

// isNewBehind asks that what is put behind a row is new memory: the row is not changed, nor is the room behind it, and whatever becomes of the answer, it stays as it was; and one answer of the other.
func isNewBehind(t *testing.T, head []byte, put func(b []byte) []byte) {
	t.Helper()
	b, asItWas := guarded(head, 0xEE)
	first, second := put(b), put(b)
	was := bytes.Clone(first)
	if !asItWas() {
		t.Fatalf("P1301: what was handed in is changed: %x", head)
	}
	overwrite(second, 0xDD)
	if !asItWas() || !bytes.Equal(first, was) {
		t.Fatalf("P1301: an answer is no new memory: %x", head)
	}
	overwrite(b, 0xCC)
	if !bytes.Equal(first, was) {
		t.Fatalf("P1301: an answer is what was handed in: %x", head)
	}
}

func TestP1301NewMemory(t *testing.T) {
	for _, head := range heads() {
		for _, n := range []uint32{0, 258, full} {
			isNewBehind(t, head, func(b []byte) []byte { return Put16(b, uint16(n)) })
			isNewBehind(t, head, func(b []byte) []byte { return Put32(b, n) })
		}
	}
}

// TestP1301Get: at all places of a row, and at those that are none.
func TestP1301Get(t *testing.T) {
	for _, b := range heads() {
		for at := range len(b) + 6 {
			isGot(t, b, at)
		}
		for _, at := range append(farBelow, farAbove...) {
			isGot(t, b, at)
		}
	}
}

// isGot asks that Get16 and Get32 tell the number at a place, or that there is none.
func isGot(t *testing.T, b []byte, at int) {
	t.Helper()
	handed, asItWas := guarded(b, 0xEE)
	short, e := Get16(handed, at)
	wantShort, wantError := numberAt(b, at, 2)
	if uint32(short) != wantShort || e != wantError {
		t.Fatalf("P1301: Get16 of %x at %d: %x, %v, want %x, %v", b, at, short, e, wantShort, wantError)
	}
	long, e := Get32(handed, at)
	wantLong, wantError := numberAt(b, at, 4)
	if long != wantLong || e != wantError {
		t.Fatalf("P1301: Get32 of %x at %d: %x, %v, want %x, %v", b, at, long, e, wantLong, wantError)
	}
	if !asItWas() {
		t.Fatalf("P2: %x is changed", b)
	}
}

// numberAt is the number of so many bytes at a place, by numbers of any length.
func numberAt(b []byte, at, size int) (uint32, api.Errno) {
	if end := new(big.Int).Add(big.NewInt(int64(at)), big.NewInt(int64(size))); at < 0 || end.Cmp(big.NewInt(int64(len(b)))) > 0 {
		return 0, api.ErrBounds
	}
	return uint32(new(big.Int).SetBytes(b[at : at+size]).Uint64()), api.OK
}

func TestP1301GetByHand(t *testing.T) {
	b := []byte{9, 1, 2, 255, 254}
	for at, want := range []uint16{0x0901, 0x0102, 0x02FF, 0xFFFE} {
		if n, e := Get16(b, at); n != want || e != api.OK {
			t.Errorf("P1301: Get16 at %d: %x, %v", at, n, e)
		}
	}
	for at, want := range []uint32{0x090102FF, 0x0102FFFE} {
		if n, e := Get32(b, at); n != want || e != api.OK {
			t.Errorf("P1301: Get32 at %d: %x, %v", at, n, e)
		}
	}
	for _, at := range []int{-1, 4, 5, 6, math.MinInt, math.MaxInt, math.MaxInt - 1} {
		if n, e := Get16(b, at); n != 0 || e != api.ErrBounds {
			t.Errorf("P1301: Get16 at %d: %x, %v", at, n, e)
		}
	}
	for _, at := range []int{-1, -2, -3, -4, 2, 3, 4, 5, math.MinInt, math.MaxInt, math.MaxInt - 3} {
		if n, e := Get32(b, at); n != 0 || e != api.ErrBounds {
			t.Errorf("P1301: Get32 at %d: %x, %v", at, n, e)
		}
	}
}

// TestP1301ShortRows: of rows in which too few bytes stand there is no number at any place, though there is room behind them.
func TestP1301ShortRows(t *testing.T) {
	for size := range 4 {
		b := make([]byte, size, 9)
		for at := -5; at < 6; at++ {
			if n, e := Get32(b, at); n != 0 || e != api.ErrBounds {
				t.Errorf("P1301: Get32 of %d bytes at %d: %v", size, at, e)
			}
			if n, e := Get16(b, at); n != 0 || (e == api.OK) != (at >= 0 && at+2 <= size) {
				t.Errorf("P1301: Get16 of %d bytes at %d: %v", size, at, e)
			}
		}
	}
	if _, e := Get16(nil, 0); e != api.ErrBounds {
		t.Errorf("P1301: %v", e)
	}
	if _, e := Get32(nil, 0); e != api.ErrBounds {
		t.Errorf("P1301: %v", e)
	}
}

// TestP1305Get: Get of Put is the number, at the place at which it was put, whatever stands behind it.
func TestP1305Get(t *testing.T) {
	for n := range 1 << 16 {
		if x, e := Get16(Put16(nil, uint16(n)), 0); int(x) != n || e != api.OK {
			t.Fatalf("P1305: %d is read as %d, %v", n, x, e)
		}
	}
	for _, head := range heads() {
		for _, n := range numbers32() {
			b := Put32(Put16(Put32(head, n), uint16(n)), ^n)
			at := len(head)
			first, e := Get32(b, at)
			second, f := Get16(b, at+4)
			third, g := Get32(b, at+6)
			if first != n || second != uint16(n) || third != ^n || e != api.OK || f != api.OK || g != api.OK {
				t.Fatalf("P1305: %x behind %x: %x, %x, %x, %v, %v, %v", n, head, first, second, third, e, f, g)
			}
			if _, e := Get32(b, at+7); e != api.ErrBounds {
				t.Fatalf("P1301: %v", e)
			}
		}
	}
}
