package delta

import (
	"bytes"
	"encoding/binary"
	"encoding/hex"
	"hash/crc32"
	"math"
	"math/big"
	"slices"
	"strconv"
	"strings"
	"testing"

	"turnpike/api"
)

// edges are numbers at which a Keep or a Drop might be taken for another one.
var edges = []int{math.MinInt, math.MinInt + 1, -1 << 32, -4, -1, 0, 1, 2, 3, 4, 5, 6, 255, 256, 1 << 31, 1<<32 - 1, 1 << 32, 1<<32 + 2, 1 << 62, math.MaxInt - 4, math.MaxInt - 1, math.MaxInt}

// counter makes numbers without a pattern, always the same ones.
func counter() func() uint64 {
	x := uint64(0x9e3779b97f4a7c15)
	return func() uint64 {
		x ^= x << 13
		x ^= x >> 7
		x ^= x << 17
		return x
	}
}

// upTo is a number from 0 on below most, without a pattern.
func upTo(next func() uint64, most int) int {
	return int(next() >> 11 % uint64(most))
}

// one is one of a list, without a pattern.
func one[T any](next func() uint64, l ...T) T {
	return l[upTo(next, len(l))]
}

// someBytes is a row of so many bytes, each of them below kinds.
func someBytes(next func() uint64, size, kinds int) []byte {
	b := make([]byte, size)
	for i := range b {
		b[i] = byte(upTo(next, kinds))
	}
	return b
}

// someRow is a row of any bytes, or of few that are unlike.
func someRow(next func() uint64, most int) []byte {
	return someBytes(next, upTo(next, most), one(next, 1, 2, 3, 256))
}

// rows are all of up to so many letters.
func rows(letters string, most int) []string {
	l, from := []string{""}, 0
	for range most {
		end := len(l)
		for _, s := range l[from:end] {
			for _, c := range letters {
				l = append(l, s+string(c))
			}
		}
		from = end
	}
	return l
}

// patch is one whose Data is a text.
func patch(keep, drop int, data string) api.Patch {
	return api.Patch{Keep: keep, Drop: drop, Data: []byte(data)}
}

// patches are one behind the other.
func patches(l ...api.Patch) []api.Patch {
	return l
}

// someFitting are patches that fit a row of so many bytes; some of them do nothing.
func someFitting(next func() uint64, size int) []api.Patch {
	var l []api.Patch
	for range upTo(next, 7) {
		p := api.Patch{Keep: upTo(next, size+1)}
		size -= p.Keep
		p.Drop = upTo(next, size+1)
		size -= p.Drop
		p.Data = someRow(next, one(next, 1, 3, 20))
		if upTo(next, 4) == 0 {
			p.Drop, size = p.Drop+size, 0
		}
		l = append(l, p)
	}
	return l
}

// somePatches are any, most of which do not fit.
func somePatches(next func() uint64, size int) []api.Patch {
	l := someFitting(next, size)
	for range upTo(next, 3) {
		l = slices.Insert(l, upTo(next, len(l)+1), api.Patch{Keep: one(next, edges...), Drop: one(next, edges...), Data: someRow(next, 3)})
	}
	return l
}

// fitBy tells by the chapter's words whether patches fit a row of so many bytes; in numbers of any length, so that nothing wraps round.
func fitBy(size int, l []api.Patch) bool {
	sum := new(big.Int)
	for _, p := range l {
		if p.Keep < 0 || p.Drop < 0 {
			return false
		}
		sum.Add(sum, big.NewInt(int64(p.Keep)))
		sum.Add(sum, big.NewInt(int64(p.Drop)))
	}
	return sum.Cmp(big.NewInt(int64(size))) <= 0
}

// applyBy is Apply by P2102's words, byte by byte.
func applyBy(a []byte, l []api.Patch) ([]byte, api.Errno) {
	if !fitBy(len(a), l) {
		return nil, api.ErrPatch
	}
	var out []byte
	at := 0
	for _, p := range l {
		for range p.Keep {
			out = append(out, a[at])
			at++
		}
		at += p.Drop
		out = append(out, p.Data...)
	}
	return append(out, a[at:]...), api.OK
}

// diffBy is Diff by P2101's words, the greatest numbers asked first.
func diffBy(a, b string) []api.Patch {
	if a == b {
		return nil
	}
	keep := min(len(a), len(b))
	for a[:keep] != b[:keep] {
		keep--
	}
	a, b = a[keep:], b[keep:]
	t := min(len(a), len(b))
	for a[len(a)-t:] != b[len(b)-t:] {
		t--
	}
	return patches(patch(keep, len(a)-t, b[:len(b)-t]))
}

// sumOf is the library's CRC-32C.
func sumOf(b []byte) uint32 {
	return crc32.Checksum(b, crc32.MakeTable(crc32.Castagnoli))
}

// numbers are four bytes each.
func numbers(l ...int) []byte {
	var b []byte
	for _, n := range l {
		b = binary.BigEndian.AppendUint32(b, uint32(n))
	}
	return b
}

// sealed is some rows one behind the other, and their sum.
func sealed(parts ...[]byte) []byte {
	b := slices.Concat(parts...)
	return binary.BigEndian.AppendUint32(b, sumOf(b))
}

// headOf is what stands ahead of so many patches for a row.
func headOf(a []byte, count int) []byte {
	return slices.Concat([]byte("TPD1"), numbers(len(a), int(sumOf(a)), count))
}

// bytesBy is Bytes by P2103's words, but for ErrWide.
func bytesBy(a []byte, l []api.Patch) ([]byte, api.Errno) {
	if !fitBy(len(a), l) {
		return nil, api.ErrPatch
	}
	return unfitBytes(a, l), api.OK
}

// unfitBytes are the same of patches that need not fit.
func unfitBytes(a []byte, l []api.Patch) []byte {
	b := headOf(a, len(l))
	for _, p := range l {
		b = slices.Concat(b, numbers(p.Keep, p.Drop, len(p.Data)), p.Data)
	}
	return sealed(b)
}

// parseBy is Parse by P2104's words.
func parseBy(a, b []byte) ([]api.Patch, api.Errno) {
	if len(b) < 20 {
		return nil, api.ErrCut
	}
	if hex.EncodeToString(b[:4]) != "54504431" {
		return nil, api.ErrMagic
	}
	end := len(b) - 4
	number := func(at int) int { return int(binary.BigEndian.Uint32(b[at:])) }
	if number(end) != int(sumOf(b[:end])) {
		return nil, api.ErrSum
	}
	if number(4) != len(a) || number(8) != int(sumOf(a)) {
		return nil, api.ErrPatch
	}
	var l []api.Patch
	at := 16
	for range number(12) {
		if at+12 > end || at+12+number(at+8) > end {
			return nil, api.ErrCut
		}
		p := api.Patch{Keep: number(at), Drop: number(at + 4), Data: b[at+12 : at+12+number(at+8)]}
		l = append(l, p)
		at += 12 + len(p.Data)
	}
	if at != end {
		return nil, api.ErrCut
	}
	if !fitBy(len(a), l) {
		return nil, api.ErrPatch
	}
	return l, api.OK
}

// alike tells whether two lists are the same patches.
func alike(l, m []api.Patch) bool {
	return slices.EqualFunc(l, m, func(p, q api.Patch) bool {
		return p.Keep == q.Keep && p.Drop == q.Drop && bytes.Equal(p.Data, q.Data)
	})
}

// cloned is a copy of patches that shares nothing with them.
func cloned(l []api.Patch) []api.Patch {
	l = slices.Clone(l)
	for i := range l {
		l[i].Data = bytes.Clone(l[i].Data)
	}
	return l
}

// short is bytes for a report: of long ones the first.
func short(b []byte) string {
	return strconv.Itoa(len(b)) + " bytes, " + hex.EncodeToString(b[:min(len(b), 100)])
}

// shown is patches for a report: of many the first.
func shown(l []api.Patch) string {
	var parts []string
	for _, p := range l[:min(len(l), 10)] {
		parts = append(parts, strconv.Itoa(p.Keep)+" "+strconv.Itoa(p.Drop)+" "+short(p.Data))
	}
	return strconv.Itoa(len(l)) + " patches {" + strings.Join(parts, "} {") + "}"
}

func TestSamplesAreSound(t *testing.T) {
	if l := rows("ab", 3); len(l) != 15 || l[0] != "" || l[1] != "a" || l[14] != "bbb" {
		t.Errorf("the rows: %q", l)
	}
	if l := diffBy("abcde", "abXe"); !alike(l, patches(patch(2, 2, "X"))) {
		t.Errorf("a difference: %s", shown(l))
	}
	if b, e := applyBy([]byte("abc"), patches(patch(1, 1, ""), patch(0, 0, "x"))); string(b) != "axc" || e != api.OK {
		t.Errorf("what comes out: %s, %v", b, e)
	}
	if fitBy(3, patches(patch(math.MaxInt, math.MaxInt, ""), patch(2, 0, ""))) || fitBy(3, patches(patch(4, -1, ""))) || !fitBy(3, patches(patch(1, 2, ""))) {
		t.Error("what fits")
	}
	if sumOf([]byte("123456789")) != 0xe3069283 {
		t.Errorf("the sum: %x", sumOf([]byte("123456789")))
	}
	next := counter()
	fits, kinds := map[bool]int{}, map[int]int{}
	for range 2000 {
		size := upTo(next, 30)
		l := somePatches(next, size)
		fits[fitBy(size, l)]++
		kinds[len(l)]++
		if l := someFitting(next, size); !fitBy(size, l) {
			t.Fatalf("%s do not fit %d bytes", shown(l), size)
		}
	}
	if fits[true] < 500 || fits[false] < 500 || len(kinds) < 7 {
		t.Errorf("the samples: %v, %v", fits, kinds)
	}
}
