package image

import (
	"encoding/binary"
	"encoding/hex"
	"hash/crc32"
	"math"
	"math/big"
	"slices"
	"strings"
	"testing"

	"turnpike/api"
)

// mostWords is how many words the code of the longest image has.
const mostWords = (1<<22 - 16) / 4

var (
	families = []int{32, 128}
	// noFamilies are numbers some of which end in the bits of a family.
	noFamilies = []int{math.MinInt, math.MinInt + 32, -128, -32, -1, 0, 1, 8, 20, 31, 33, 64, 80, 127, 129, 160, 255, 256, 256 + 32, 256 + 128, 1<<16 + 32, 1<<32 + 32, 1<<32 + 128, math.MaxInt}
	// noDepths are numbers that no depth may be, some of which end in the bits of one that may.
	noDepths = []int{math.MinInt, math.MinInt + 1, -1 << 32, -256, -128, -32, -2, -1, 129, 130, 255, 256, 257, 1 << 16, 1<<16 + 1, 1 << 32, 1<<32 + 1, math.MaxInt - 1, math.MaxInt}
	// noWords are numbers that no code's words may be; four times some of them wraps round to bytes that a code may have.
	noWords = []int{math.MinInt, math.MinInt + 1, -1 << 62, -1<<62 + 1, -1 << 32, -1<<32 + 1, -1024, -4, -2, -1, 1 << 32, 1<<32 + 1, 1 << 61, 1 << 62, 1<<62 + 1, 1<<62 + 2, math.MaxInt - 1, math.MaxInt}
)

// counter makes numbers without a pattern, always the same ones.
func counter() func() uint64 {
	x := uint64(0x9e3779b97f4a7c15)
	return func() uint64 {
		x ^= x << 13
		x ^= x >> 7
		x ^= x << 17
		return x
	}
}

// upTo is a number from 0 on below most, without a pattern.
func upTo(next func() uint64, most int) int {
	return int(next() >> 11 % uint64(most))
}

func someBytes(next func() uint64, size int) []byte {
	b := make([]byte, size)
	for i := range b {
		b[i] = byte(next() >> 11)
	}
	return b
}

// bytesOf is the bytes of a text, two hexadecimal digits each.
func bytesOf(s string) []byte {
	b, err := hex.DecodeString(strings.Join(strings.Fields(s), ""))
	if err != nil {
		panic(err)
	}
	return b
}

// short is bytes for a report: of long ones the first.
func short(b []byte) string {
	return hex.EncodeToString(b[:min(len(b), 100)])
}

// sumOf is the library's CRC-32C.
func sumOf(b ...byte) uint32 {
	return crc32.Checksum(b, crc32.MakeTable(crc32.Castagnoli))
}

// framed is a head of any numbers, right or not, with its right sum, and the code.
func framed(h api.Header, code []byte) []byte {
	b := append([]byte{0x54, 0x50, 0x4b, 0x31}, byte(h.W), byte(h.Depth))
	b = binary.BigEndian.AppendUint16(b, uint16(h.Steps))
	b = binary.BigEndian.AppendUint32(b, uint32(h.Words))
	return slices.Concat(binary.BigEndian.AppendUint32(b, sumOf(slices.Concat(b, code)...)), code)
}

// isRight tells by the chapter's words whether Depth and Steps are; in numbers of any length, so that nothing wraps round.
func isRight(h api.Header) bool {
	if h.Depth == 0 {
		return h.Steps == 1
	}
	three := new(big.Int).Mul(big.NewInt(3), big.NewInt(int64(h.Depth)))
	return 0 < h.Depth && h.Depth <= h.W && big.NewInt(int64(h.Steps)).Cmp(three) == 0
}

// bytesOfImage is how many an image of so many words has, in numbers of any length.
func bytesOfImage(words int) *big.Int {
	n := new(big.Int).Mul(big.NewInt(4), big.NewInt(int64(words)))
	return n.Add(n, big.NewInt(16))
}

// packBy is Pack by P1701's words.
func packBy(h api.Header, code []byte) ([]byte, api.Errno) {
	size := bytesOfImage(h.Words)
	switch {
	case !slices.Contains(families, h.W):
		return nil, api.ErrFamily
	case !isRight(h):
		return nil, api.ErrSteps
	case size.Cmp(big.NewInt(int64(16+len(code)))) != 0:
		return nil, api.ErrCut
	case size.Cmp(big.NewInt(1<<22)) > 0:
		return nil, api.ErrSize
	}
	return framed(h, code), api.OK
}

// openBy is Open by P1702's words.
func openBy(b []byte, at int) (api.Header, []byte, api.Errno) {
	if at < 0 || at > len(b) {
		return api.Header{}, nil, api.ErrBounds
	}
	b = b[at:]
	if len(b) < 16 {
		return api.Header{}, nil, api.ErrCut
	}
	h := api.Header{W: int(b[4]), Depth: int(b[5]), Steps: int(binary.BigEndian.Uint16(b[6:8])), Words: int(binary.BigEndian.Uint32(b[8:12]))}
	switch size := 16 + 4*h.Words; {
	case b[0] != 0x54 || b[1] != 0x50 || b[2] != 0x4b || b[3] != 0x31:
		return api.Header{}, nil, api.ErrMagic
	case !slices.Contains(families, h.W):
		return api.Header{}, nil, api.ErrFamily
	case !isRight(h):
		return api.Header{}, nil, api.ErrSteps
	case size > 1<<22:
		return api.Header{}, nil, api.ErrSize
	case size > len(b):
		return api.Header{}, nil, api.ErrCut
	case binary.BigEndian.Uint32(b[12:16]) != sumOf(slices.Concat(b[:12], b[16:size])...):
		return api.Header{}, nil, api.ErrSum
	default:
		return h, b[16:size], api.OK
	}
}

// findBy is Find by P1703's words.
func findBy(b []byte) (int, bool) {
	for at := range len(b) + 1 {
		if _, _, e := openBy(b, at); e == api.OK {
			return at, true
		}
	}
	return 0, false
}

// sample is what an image is made of.
type sample struct {
	h    api.Header
	code []byte
}

// headerOf is the right one of a family and a depth, for code of whole words.
func headerOf(family, depth int, code []byte) api.Header {
	steps := 3 * depth
	if depth == 0 {
		steps = 1
	}
	return api.Header{W: family, Depth: depth, Steps: steps, Words: len(code) / 4}
}

// samples are images at the edges of what they may be, short and long, and of bytes without a pattern.
func samples() []sample {
	next := counter()
	var l []sample
	for _, family := range families {
		for _, depth := range []int{0, 1, 2, 3, family - 1, family, upTo(next, family)} {
			for _, words := range []int{0, 1, 2, 3, 63, 64, 65, 255, 256, 257, 300} {
				code := someBytes(next, 4*words)
				l = append(l, sample{headerOf(family, depth, code), code})
			}
		}
	}
	// Codes whose bytes are all alike, and codes that begin like an image.
	for _, code := range [][]byte{make([]byte, 16), bytesOf("ffffffff ffffffff"), []byte("TPK1"), []byte("TPK1TPK1TPK1TPK1"), bytesOf("04000009")} {
		l = append(l, sample{headerOf(32, 1, code), code}, sample{headerOf(128, 128, code), code})
	}
	return l
}

// packed is Pack of what must be an image.
func packed(t *testing.T, h api.Header, code []byte) []byte {
	t.Helper()
	b, e := Pack(h, code)
	if e != api.OK {
		t.Fatalf("P1701: Pack(%v, %d bytes): %v", h, len(code), e)
	}
	return b
}

// opensAs asks that Open tells just what is wanted.
func opensAs(t *testing.T, b []byte, at int, h api.Header, code []byte, want api.Errno) {
	t.Helper()
	gotHeader, gotCode, e := Open(b, at)
	if gotHeader != h || !slices.Equal(gotCode, code) || e != want {
		t.Fatalf("P1702: Open of %d bytes (%s) at %d: %v, %d bytes, %v; want %v, %d bytes, %v", len(b), short(b), at, gotHeader, len(gotCode), e, h, len(code), want)
	}
}

// opensByTheWords asks the same by the chapter's words.
func opensByTheWords(t *testing.T, b []byte, at int) {
	t.Helper()
	h, code, e := openBy(b, at)
	opensAs(t, b, at, h, code, e)
}

// isRefused asks for an error of Open, with nothing beside it.
func isRefused(t *testing.T, b []byte, at int, want api.Errno) {
	t.Helper()
	opensAs(t, b, at, api.Header{}, nil, want)
}

// findsAt asks what Find tells.
func findsAt(t *testing.T, b []byte, at int, found bool) {
	t.Helper()
	if got, ok := Find(b); got != at || ok != found {
		t.Fatalf("P1703: Find of %d bytes (%s): %d, %v; want %d, %v", len(b), short(b), got, ok, at, found)
	}
}

// withSum makes the last four bytes of a row such that its sum is the one that is wanted: the sum's steps are undone, one by one.
func withSum(b []byte, want uint32) []byte {
	b = slices.Clone(b)
	c := ^want
	for range 32 {
		if c>>31 == 1 {
			c = (c^0x82f63b78)<<1 | 1
		} else {
			c <<= 1
		}
	}
	ahead := ^sumOf(b[:len(b)-4]...)
	binary.LittleEndian.PutUint32(b[len(b)-4:], c^ahead)
	return b
}

// guarded is a copy of a row with room behind it, and a function that tells whether both are as they were.
func guarded(b []byte) (handed []byte, asItWas func() bool) {
	all := append(slices.Clone(b), 0xde, 0xad, 0xbe, 0xef, 0xde, 0xad, 0xbe, 0xef)
	was := slices.Clone(all)
	return all[:len(b)], func() bool { return slices.Equal(all, was) }
}

// overwrite makes each byte of a row another one, its spare room's too; a second time does not undo it.
func overwrite(b []byte) {
	b = b[:cap(b)]
	for i := range b {
		b[i]++
	}
}

func TestSamplesAreSound(t *testing.T) {
	if got := sumOf([]byte("123456789")...); got != 0xe3069283 {
		t.Fatalf("the sum is %x", got)
	}
	for _, x := range samples() {
		b := framed(x.h, x.code)
		h, code, e := openBy(b, 0)
		if h != x.h || !slices.Equal(code, x.code) || e != api.OK || len(b) != 16+len(x.code) {
			t.Fatalf("%v opens as %v, %v", x.h, h, e)
		}
	}
	next := counter()
	for size := 4; size < 40; size++ {
		want := uint32(next() >> 11)
		if got := sumOf(withSum(someBytes(next, size), want)...); got != want {
			t.Fatalf("the sum made is %x, want %x", got, want)
		}
	}
}
