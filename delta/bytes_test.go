package delta

import (
	"bytes"
	"encoding/hex"
	"math"
	"slices"
	"strings"
	"testing"

	"turnpike/api"
	"turnpike/wire"
)

// isLaid asks for just these bytes, or for an error and nothing beside it.
func isLaid(t *testing.T, a []byte, l []api.Patch, want []byte, e api.Errno) {
	t.Helper()
	if b, f := Bytes(a, l); !bytes.Equal(b, want) || f != e {
		t.Fatalf("P2103: Bytes(%s, %s): %s, %v; want %s, %v", short(a), shown(l), short(b), f, short(want), e)
	}
}

func TestP2103Examples(t *testing.T) {
	if b, e := Bytes(nil, nil); len(b) != 20 || e != api.OK {
		t.Errorf("P2103: Bytes(none, none): %s, %v", short(b), e)
	}
	isLaid(t, []byte("abc"), patches(patch(2, 2, "")), nil, api.ErrPatch)
}

// TestP2103ByHand: every byte, the two sums told by the library and by wire.Sum.
func TestP2103ByHand(t *testing.T) {
	for _, x := range []struct {
		a    string
		l    []api.Patch
		want string // without the last sum
	}{
		{"", nil, "54504431 00000000 00000000 00000000"},
		{"", patches(patch(0, 0, "")), "54504431 00000000 00000000 00000001 000000000000000000000000"},
		{"", patches(patch(0, 0, "x")), "54504431 00000000 00000000 00000001 00000000 00000000 00000001 78"},
		{"123456789", nil, "54504431 00000009 e3069283 00000000"},
		{"123456789", patches(patch(2, 3, "xy")), "54504431 00000009 e3069283 00000001 00000002 00000003 00000002 7879"},
		{"123456789", patches(patch(9, 0, "")), "54504431 00000009 e3069283 00000001 00000009 00000000 00000000"},
		{"123456789", patches(patch(0, 9, "")), "54504431 00000009 e3069283 00000001 00000000 00000009 00000000"},
		{"123456789", patches(patch(1, 2, "x"), patch(0, 0, ""), patch(3, 1, "\x00\xff")), "54504431 00000009 e3069283 00000003 00000001 00000002 00000001 78 00000000 00000000 00000000 00000003 00000001 00000002 00ff"},
	} {
		want, err := hex.DecodeString(strings.ReplaceAll(x.want, " ", ""))
		if err != nil {
			t.Fatal(err)
		}
		isLaid(t, []byte(x.a), x.l, sealed(want), api.OK)
		isLaid(t, []byte(x.a), x.l, wire.Put32(want, wire.Sum(want)), api.OK)
	}
	// The last sum of none, of no patches.
	b, e := Bytes(nil, nil)
	if hex.EncodeToString(b) != "54504431000000000000000000000000"+hex.EncodeToString(numbers(int(sumOf(b[:16])))) || e != api.OK {
		t.Errorf("P2103: %s, %v", short(b), e)
	}
}

// TestP2103Numbers: lengths, counts and sizes that take each of the two lower bytes, and the third.
func TestP2103Numbers(t *testing.T) {
	next := counter()
	for _, size := range []int{0, 1, 255, 256, 257, 65535, 65536, 0x10203} {
		a := someBytes(next, size, 256)
		isLaid(t, a, nil, unfitBytes(a, nil), api.OK)
		for _, l := range [][]api.Patch{patches(patch(size, 0, "x")), patches(patch(0, size, "x")), patches(api.Patch{Keep: size / 2, Drop: size - size/2, Data: a}), slices.Repeat(patches(patch(0, 0, "")), min(size, 300))} {
			isLaid(t, a, l, unfitBytes(a, l), api.OK)
		}
	}
	many := slices.Repeat(patches(patch(1, 0, "")), 0x10203)
	a := make([]byte, len(many))
	want := sealed(headOf(a, len(many)), bytes.Repeat(numbers(1, 0, 0), len(many)))
	isLaid(t, a, many, want, api.OK)
	isLaid(t, a[1:], many, nil, api.ErrPatch)
}

// TestP2103AsTheChapterSays: rows and patches without a pattern.
func TestP2103AsTheChapterSays(t *testing.T) {
	next := counter()
	seen := map[api.Errno]int{}
	for range 20000 {
		a := someRow(next, 40)
		l := somePatches(next, len(a))
		want, e := bytesBy(a, l)
		isLaid(t, a, l, want, e)
		seen[e]++
	}
	if seen[api.OK] < 5000 || seen[api.ErrPatch] < 5000 {
		t.Errorf("the samples: %v", seen)
	}
}

// TestP2103Edges: lists that do not fit are told ahead of those that are too wide.
func TestP2103Edges(t *testing.T) {
	for _, a := range []string{"", "abcde"} {
		for _, keep := range edges {
			for _, drop := range edges {
				l := patches(patch(keep, drop, "x"))
				want, e := bytesBy([]byte(a), l)
				isLaid(t, []byte(a), l, want, e)
			}
		}
	}
}

// TestP2103Wide: numbers that four bytes hold, and greater ones; of rows that are too long to be made here only their length is handed in.
func TestP2103Wide(t *testing.T) {
	const most = 1<<32 - 1
	for _, x := range []struct {
		size int
		l    []api.Patch
		want api.Errno
	}{
		{0, nil, api.OK}, {most, nil, api.OK}, {most + 1, nil, api.ErrWide}, {1 << 33, nil, api.ErrWide}, {math.MaxInt, nil, api.ErrWide},
		{most, patches(patch(most, 0, "")), api.OK}, {most, patches(patch(0, most, "")), api.OK}, {most, patches(patch(0, 0, ""), patch(1, most-1, "")), api.OK},
		{most + 1, patches(patch(0, 0, "")), api.ErrWide}, {most + 1, patches(patch(most+1, 0, "")), api.ErrWide}, {most + 1, patches(patch(0, 0, ""), patch(0, most+1, "")), api.ErrWide},
		{most, patches(patch(most+1, 0, "")), api.ErrPatch}, {0, patches(patch(most+1, 0, "")), api.ErrPatch}, {most + 1, patches(patch(most+1, 1, "")), api.ErrPatch}, {most + 1, patches(patch(0, 0, ""), patch(0, -1, "")), api.ErrPatch},
	} {
		if e := mayBeWritten(x.size, x.l); e != x.want {
			t.Errorf("P2103: %s for a row of %d bytes: %v; want %v", shown(x.l), x.size, e, x.want)
		}
	}
	if isWide() || isWide(0, most) || !isWide(0, most+1) || !isWide(most+1, 0) || !isWide(math.MaxInt) {
		t.Error("P2103: what is above 2^32 - 1")
	}
}
