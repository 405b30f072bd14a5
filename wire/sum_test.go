package wire

import (
	"bytes"
	"hash/crc32"
	"math"
	"slices"
	"testing"

	"turnpike/api"
)

// sumBy is the sum by the chapter's words.
func sumBy(b []byte) uint32 {
	c := uint32(0xFFFFFFFF)
	for _, x := range b {
		c ^= uint32(x)
		for range 8 {
			odd := c%2 == 1
			c /= 2
			if odd {
				c ^= 0x82F63B78
			}
		}
	}
	return ^c
}

// step is what a row's sum becomes by zero bits or bytes behind it, as a matrix: by each bit of the sum, what that alone becomes. So Join is told by other means than the program's.
type step [32]uint32

func (s step) of(c uint32) uint32 {
	sum := uint32(0)
	for i, x := range s {
		if c>>i&1 == 1 {
			sum ^= x
		}
	}
	return sum
}

// twice is a step made two times.
func (s step) twice() step {
	var two step
	for i, x := range s {
		two[i] = s.of(x)
	}
	return two
}

func byteStep() step {
	var bit step
	bit[0] = 0x82F63B78
	for i := 1; i < 32; i++ {
		bit[i] = 1 << (i - 1)
	}
	return bit.twice().twice().twice()
}

// joinBy is Join by such matrices.
func joinBy(a, b uint32, n int) uint32 {
	s := byteStep()
	for ; n > 0; n /= 2 {
		if n%2 == 1 {
			a = s.of(a)
		}
		s = s.twice()
	}
	return a ^ b
}

// joined is Join, without an error.
func joined(t *testing.T, a, b uint32, n int) uint32 {
	t.Helper()
	s, e := Join(a, b, n)
	if e != api.OK {
		t.Fatalf("P1302: Join(%x, %x, %d): %v", a, b, n, e)
	}
	return s
}

// parted is a row in so many parts, some of them without bytes.
func parted(next func() uint64, b []byte, parts int) [][]byte {
	ends := []int{len(b)}
	for range parts - 1 {
		ends = append(ends, int(next()>>5%uint64(len(b)+1)))
	}
	slices.Sort(ends)
	var l [][]byte
	from := 0
	for _, end := range ends {
		l = append(l, b[from:end])
		from = end
	}
	return l
}

func TestP1302ByHand(t *testing.T) {
	up, down := make([]byte, 32), make([]byte, 32)
	for i := range 32 {
		up[i], down[i] = byte(i), byte(31-i)
	}
	for _, x := range []struct {
		b    []byte
		want uint32
	}{
		{nil, 0}, {[]byte{}, 0}, {[]byte("123456789"), 0xE3069283}, {[]byte("a"), 0xC1D04330}, {[]byte{0}, 0x527D5351},
		// Those that the description of iSCSI has.
		{make([]byte, 32), 0x8A9136AA}, {bytes.Repeat([]byte{255}, 32), 0x62A8AB43}, {up, 0x46DD794E}, {down, 0x113FDB5C},
	} {
		if s := Sum(x.b); s != x.want || sumBy(x.b) != x.want {
			t.Errorf("P1302: Sum(%x): %08X, want %08X", x.b, s, x.want)
		}
	}
}

// TestP1302NoBytes: no part, and parts without bytes.
func TestP1302NoBytes(t *testing.T) {
	for _, parts := range [][][]byte{nil, {}, {nil}, {{}}, {nil, {}, nil}, {make([]byte, 0, 9), nil}} {
		if s := Sum(parts...); s != 0 {
			t.Errorf("P1302: Sum of %v: %08X", parts, s)
		}
	}
	if s := Sum(); s != 0 {
		t.Errorf("P1302: Sum(): %08X", s)
	}
	nine := []byte("123456789")
	for _, parts := range [][][]byte{{nil, nine}, {nine, nil}, {{}, nine[:4], {}, nil, nine[4:], nil}} {
		if s := Sum(parts...); s != 0xE3069283 {
			t.Errorf("P1302: Sum of %v: %08X", parts, s)
		}
	}
}

// TestP1302ByBytes: rows of every byte alone, of each pair, and longer ones.
func TestP1302ByBytes(t *testing.T) {
	for x := range 1 << 16 {
		for _, b := range [][]byte{{byte(x)}, {byte(x >> 8), byte(x)}} {
			if s := Sum(b); s != sumBy(b) {
				t.Fatalf("P1302: Sum(%x): %08X, want %08X", b, s, sumBy(b))
			}
		}
	}
	next := counter()
	known := crc32.MakeTable(crc32.Castagnoli)
	for size := range 1200 {
		b := someBytes(next, size)
		if s := Sum(b); s != sumBy(b) || s != crc32.Checksum(b, known) {
			t.Fatalf("P1302: Sum(%x): %08X, want %08X", b, s, sumBy(b))
		}
	}
	b := someBytes(next, 1<<24+5)
	if s := Sum(b); s != crc32.Checksum(b, known) {
		t.Errorf("P1302: Sum of %d bytes: %08X", len(b), s)
	}
}

// TestP1305Parts: the sum of parts is that of all bytes in one.
func TestP1305Parts(t *testing.T) {
	next := counter()
	for size := range 200 {
		b := someBytes(next, size)
		want := Sum(b)
		for parts := 1; parts < 9; parts++ {
			l := parted(next, b, parts)
			if s := Sum(l...); s != want {
				t.Fatalf("P1305: Sum of %x: %08X, want %08X", l, s, want)
			}
		}
		var alone [][]byte
		for i := range b {
			alone = append(alone, b[i:i+1])
		}
		if s := Sum(alone...); s != want {
			t.Fatalf("P1305: Sum of the bytes of %x: %08X, want %08X", b, s, want)
		}
		// A part may come twice.
		if s := Sum(b, b); s != Sum(bytes.Repeat(b, 2)) {
			t.Fatalf("P1305: Sum of %x twice: %08X", b, s)
		}
	}
}

// TestP1305Join: Join of two sums is that of both rows.
func TestP1305Join(t *testing.T) {
	next := counter()
	for size := range 130 {
		for n := range 130 {
			a, b := someBytes(next, size), someBytes(next, n)
			if s := joined(t, Sum(a), Sum(b), n); s != Sum(a, b) {
				t.Fatalf("P1305: Join of %x and %x: %08X, want %08X", a, b, s, Sum(a, b))
			}
		}
	}
	for range 300 {
		a, b := someBytes(next, int(next()>>3%5000)), someBytes(next, int(next()>>3%70000))
		if s := joined(t, Sum(a), Sum(b), len(b)); s != sumBy(slices.Concat(a, b)) {
			t.Fatalf("P1305: Join of %d and %d bytes: %08X", len(a), len(b), s)
		}
	}
}

func TestP1302JoinByHand(t *testing.T) {
	nine := []byte("123456789")
	for i := range len(nine) + 1 {
		if s := joined(t, Sum(nine[:i]), Sum(nine[i:]), len(nine)-i); s != 0xE3069283 {
			t.Errorf("P1302: Join behind %d bytes: %08X", i, s)
		}
	}
	for _, a := range numbers32() {
		if s := joined(t, a, 0, 0); s != a {
			t.Errorf("P1302: Join of %08X and no bytes: %08X", a, s)
		}
		if s := joined(t, 0, a, 9); s != a {
			t.Errorf("P1302: Join of no bytes and %08X: %08X", a, s)
		}
	}
}

// TestP1302JoinBelow: ErrArg of lengths below 0.
func TestP1302JoinBelow(t *testing.T) {
	for _, n := range farBelow {
		for _, a := range []uint32{0, 1, full} {
			for _, b := range []uint32{0, 2, full} {
				if s, e := Join(a, b, n); s != 0 || e != api.ErrArg {
					t.Errorf("P1302: Join(%x, %x, %d): %08X, %v", a, b, n, s, e)
				}
			}
		}
	}
}

// greatLengths are powers of 2, what lies beside them, and numbers without a pattern, up to the greatest there is.
func greatLengths() []int {
	l := append([]int{0, 1, 2, 3}, farAbove...)
	for i := 2; i < 63; i++ {
		l = append(l, 1<<i-1, 1<<i, 1<<i+1)
	}
	next := counter()
	for range 100 {
		l = append(l, int(next()>>1>>(next()>>8%62)))
	}
	return l
}

// TestP1302JoinGreat: by the steps of a byte as a matrix; it ends at once.
func TestP1302JoinGreat(t *testing.T) {
	next := counter()
	for _, n := range greatLengths() {
		for _, a := range []uint32{0, 1, 1 << 31, full, uint32(next() >> 9), uint32(next() >> 9)} {
			b := uint32(next() >> 9)
			if s := joined(t, a, b, n); s != joinBy(a, b, n) {
				t.Fatalf("P1302: Join(%x, %x, %d): %08X, want %08X", a, b, n, s, joinBy(a, b, n))
			}
		}
	}
	for range 20000 {
		joined(t, uint32(next()), uint32(next()>>32), math.MaxInt)
	}
}

// TestP1302JoinOfThree: three rows are joined alike, whichever two are first; the lengths are up to the greatest there is.
func TestP1302JoinOfThree(t *testing.T) {
	next := counter()
	for _, n := range greatLengths() {
		a, b, c := uint32(next()>>9), uint32(next()>>9), uint32(next()>>9)
		for _, m := range []int{0, 1, 5, 1 << 20, math.MaxInt - n} {
			if m > math.MaxInt-n {
				continue
			}
			left := joined(t, joined(t, a, b, n), c, m)
			right := joined(t, a, joined(t, b, c, m), n+m)
			if left != right {
				t.Fatalf("P1305: of %d and %d bytes: %08X, %08X", n, m, left, right)
			}
		}
	}
}

// TestP1302JoinLong: a second row of as many bytes as the document's limits allow, summed by the library.
func TestP1302JoinLong(t *testing.T) {
	known := crc32.MakeTable(crc32.Castagnoli)
	block := someBytes(counter(), 1<<22)
	head := []byte("head")
	sumOfRow, sumOfBoth := uint32(0), crc32.Checksum(head, known)
	n := 0
	for n < math.MaxInt32 {
		part := block[:min(len(block), math.MaxInt32-n)]
		sumOfRow, sumOfBoth = crc32.Update(sumOfRow, known, part), crc32.Update(sumOfBoth, known, part)
		n += len(part)
	}
	if s := joined(t, Sum(head), sumOfRow, n); s != sumOfBoth {
		t.Errorf("P1305: Join of %d bytes: %08X, want %08X", n, s, sumOfBoth)
	}
}

// TestP1305OneBit: one bit turned makes another sum, whichever it is.
func TestP1305OneBit(t *testing.T) {
	next := counter()
	for _, size := range []int{1, 2, 3, 4, 5, 8, 9, 16, 31, 32, 33, 64, 100, 333} {
		for _, b := range [][]byte{make([]byte, size), bytes.Repeat([]byte{255}, size), someBytes(next, size)} {
			was := Sum(b)
			half := size / 2
			for bit := range 8 * size {
				other := bytes.Clone(b)
				other[bit/8] ^= 1 << (bit % 8)
				if Sum(other) == was || Sum(other[:half], other[half:]) == was {
					t.Fatalf("P1305: bit %d of %x turned: %08X again", bit, b, was)
				}
				if s := joined(t, Sum(other[:half]), Sum(other[half:]), size-half); s == was {
					t.Fatalf("P1305: bit %d of %x turned: %08X again", bit, b, was)
				}
			}
		}
	}
}

// TestP2Sum: the parts are not changed, nor the list of them, and are not kept.
func TestP2Sum(t *testing.T) {
	next := counter()
	for size := range 40 {
		a, aAsItWas := guarded(someBytes(next, size), 0xEE)
		b, bAsItWas := guarded(someBytes(next, size/2), 0xDD)
		parts := [][]byte{a, nil, b, a}
		first, second := Sum(parts...), Sum(parts...)
		if first != second || !aAsItWas() || !bAsItWas() || len(parts[0]) != size || parts[1] != nil || len(parts[2]) != size/2 || len(parts[3]) != size {
			t.Fatalf("P2: parts are changed: %x", parts)
		}
	}
}
