package delta

import (
	"bytes"
	"math"
	"slices"
	"strings"
	"testing"

	"turnpike/api"
)

// isApplied asks for just this, or for an error and nothing beside it.
func isApplied(t *testing.T, a string, l []api.Patch, want string, e api.Errno) {
	t.Helper()
	if b, f := Apply([]byte(a), l); string(b) != want || f != e {
		t.Fatalf("P2102: Apply(%.100q, %s): %s, %v; want %.100q, %v", a, shown(l), short(b), f, want, e)
	}
}

func TestP2102Examples(t *testing.T) {
	isApplied(t, "abc", patches(patch(1, 1, ""), patch(0, 0, "x")), "axc", api.OK)
	isApplied(t, "abc", patches(patch(2, 2, "")), "", api.ErrPatch)
}

func TestP2102ByHand(t *testing.T) {
	for _, x := range []struct {
		a    string
		l    []api.Patch
		want string
	}{
		// No patches, and such as do nothing.
		{"", nil, ""}, {"abc", nil, "abc"}, {"abc", patches(), "abc"}, {"", patches(patch(0, 0, "")), ""}, {"abc", patches(patch(0, 0, ""), patch(0, 0, "")), "abc"},
		// Keep alone: no more than where the next one stands.
		{"abc", patches(patch(2, 0, "")), "abc"}, {"abc", patches(patch(3, 0, "")), "abc"}, {"abc", patches(patch(1, 0, ""), patch(2, 0, "")), "abc"},
		// Drop alone.
		{"abc", patches(patch(0, 2, "")), "c"}, {"abc", patches(patch(0, 3, "")), ""}, {"abc", patches(patch(0, 1, ""), patch(0, 1, "")), "c"},
		// Data alone: ahead of all, and each behind the one ahead.
		{"", patches(patch(0, 0, "x")), "x"}, {"abc", patches(patch(0, 0, "xy")), "xyabc"}, {"abc", patches(patch(0, 0, "x"), patch(0, 0, "y")), "xyabc"},
		// Data stands where bytes went, and ahead of what is left.
		{"abc", patches(patch(1, 1, "X")), "aXc"}, {"abc", patches(patch(3, 0, "X")), "abcX"}, {"abc", patches(patch(0, 3, "X")), "X"}, {"abc", patches(patch(1, 2, "XYZ")), "aXYZ"}, {"abcdef", patches(patch(1, 1, "X"), patch(1, 1, "Y")), "aXcYef"},
		// Each one goes on behind what the one ahead kept and dropped; what it brought is not counted.
		{"abcdef", patches(patch(2, 1, "12345"), patch(1, 1, "")), "ab12345df"}, {"abcdef", patches(patch(0, 1, "xyz"), patch(1, 0, ""), patch(1, 2, "!")), "xyzbc!f"}, {"abcdef", patches(patch(6, 0, "x"), patch(0, 0, "y")), "abcdefxy"},
		{"\x00\xff", patches(patch(1, 0, "\x00"), patch(1, 0, "\xff")), "\x00\x00\xff\xff"},
	} {
		isApplied(t, x.a, x.l, x.want, api.OK)
	}
}

func TestP2102WrongPatches(t *testing.T) {
	for _, x := range []struct {
		a string
		l []api.Patch
	}{
		// Below 0, also where together they are no more than a has.
		{"abc", patches(patch(-1, 0, ""))}, {"abc", patches(patch(0, -1, ""))}, {"abc", patches(patch(2, -1, ""))}, {"abc", patches(patch(-1, 2, ""))}, {"abc", patches(patch(3, 0, ""), patch(0, -1, ""))}, {"abc", patches(patch(3, 0, ""), patch(-3, 3, ""))}, {"abc", patches(patch(math.MinInt, 0, ""))}, {"abc", patches(patch(0, math.MinInt, "x"))}, {"", patches(patch(-1, 1, ""))}, {"", patches(patch(1, -1, ""))},
		// One more than a has.
		{"", patches(patch(1, 0, ""))}, {"", patches(patch(0, 1, ""))}, {"abc", patches(patch(4, 0, ""))}, {"abc", patches(patch(0, 4, ""))}, {"abc", patches(patch(2, 2, ""))}, {"abc", patches(patch(1, 1, ""), patch(1, 1, ""))}, {"abc", patches(patch(3, 0, ""), patch(0, 1, ""))}, {"abc", patches(patch(0, 3, ""), patch(1, 0, ""))},
		// What is brought is not a's.
		{"abc", patches(patch(3, 0, "xyz"), patch(1, 0, ""))}, {"", patches(patch(0, 0, "x"), patch(0, 1, ""))},
		// The sum passes the greatest int: it wraps round to below 0, to 0, to 3.
		{"abc", patches(patch(math.MaxInt, 1, ""))}, {"abc", patches(patch(1, math.MaxInt, ""))}, {"abc", patches(patch(math.MaxInt, math.MaxInt, ""))}, {"abc", patches(patch(math.MaxInt, 0, ""), patch(1, 0, ""))}, {"abc", patches(patch(math.MaxInt, math.MaxInt, ""), patch(2, 0, ""))}, {"abc", patches(patch(math.MaxInt, math.MaxInt, ""), patch(2, 3, ""))}, {"abc", patches(patch(2, 0, ""), patch(math.MaxInt, math.MaxInt, ""), patch(0, 2, ""))}, {"abc", patches(patch(math.MaxInt-1, 0, ""))},
		// Numbers that end in those that would fit.
		{"abc", patches(patch(1<<32, 0, ""))}, {"abc", patches(patch(0, 1<<32+1, ""))}, {"abc", patches(patch(256, 0, ""))},
		// The last one of many.
		{"abc", append(slices.Repeat(patches(patch(0, 0, "x")), 1000), patch(0, 4, ""))},
	} {
		isApplied(t, x.a, x.l, "", api.ErrPatch)
		if b, e := Bytes([]byte(x.a), x.l); len(b) != 0 || e != api.ErrPatch {
			t.Fatalf("P2103: Bytes(%q, %s): %s, %v", x.a, shown(x.l), short(b), e)
		}
	}
}

// TestP2102All: each Keep and Drop of one and of two patches around those that fit, of each short row.
func TestP2102All(t *testing.T) {
	const letters = "abcd"
	for size := range len(letters) + 1 {
		for n := range 7 * 7 * 7 * 7 {
			l := patches(patch(n%7-1, n/7%7-1, "x"), patch(n/49%7-1, n/343-1, "y"))
			for _, l := range [][]api.Patch{l, l[:1]} {
				want, e := applyBy([]byte(letters[:size]), l)
				isApplied(t, letters[:size], l, string(want), e)
			}
		}
	}
}

// TestP2102Edges: of all numbers of the edges.
func TestP2102Edges(t *testing.T) {
	for _, a := range []string{"", "abcde"} {
		for _, keep := range edges {
			for _, drop := range edges {
				for _, more := range [][]api.Patch{nil, patches(patch(0, 0, "y")), patches(patch(1, 0, "y")), patches(patch(math.MaxInt, 2, ""))} {
					for _, l := range [][]api.Patch{append(patches(patch(keep, drop, "x")), more...), append(slices.Clone(more), patch(keep, drop, "x"))} {
						want, e := applyBy([]byte(a), l)
						isApplied(t, a, l, string(want), e)
					}
				}
			}
		}
	}
}

// TestP2102AsTheChapterSays: rows and patches without a pattern.
func TestP2102AsTheChapterSays(t *testing.T) {
	next := counter()
	seen := map[api.Errno]int{}
	for range 20000 {
		a := someRow(next, 40)
		l := somePatches(next, len(a))
		want, e := applyBy(a, l)
		isApplied(t, string(a), l, string(want), e)
		seen[e]++
	}
	if seen[api.OK] < 5000 || seen[api.ErrPatch] < 5000 {
		t.Errorf("the samples: %v", seen)
	}
}

// TestP2102Many: as many patches as there are bytes, each of which takes one and brings two.
func TestP2102Many(t *testing.T) {
	const size = 1 << 18
	a := []byte(strings.Repeat("ab", size))
	l := slices.Repeat(patches(patch(1, 1, "XY")), size)
	isApplied(t, string(a), l, strings.Repeat("aXY", size), api.OK)
	isApplied(t, string(a[1:]), l, "", api.ErrPatch)
	if n := Weight(l); n != 2*size {
		t.Errorf("P2102: Weight of many: %d", n)
	}
}

func TestP2102Weight(t *testing.T) {
	for _, x := range []struct {
		l    []api.Patch
		want int
	}{
		{nil, 0}, {patches(), 0}, {patches(patch(0, 0, "")), 0}, {patches(patch(5, 7, "")), 0}, {patches(patch(5, 7, "abc")), 3}, {patches(patch(0, 0, "abc"), patch(0, 0, ""), patch(0, 0, "d")), 4}, {patches(patch(1, 1, "a"), patch(1, 1, "a")), 2},
		// Also of such as fit nothing.
		{patches(patch(-1, math.MinInt, "ab"), patch(math.MaxInt, math.MaxInt, "c")), 3},
		// What stands in the room behind Data is not brought.
		{patches(api.Patch{Data: make([]byte, 2, 100)}), 2},
	} {
		if n := Weight(x.l); n != x.want {
			t.Errorf("P2102: Weight(%s): %d; want %d", shown(x.l), n, x.want)
		}
	}
	next := counter()
	for range 2000 {
		l := somePatches(next, 30)
		var all []byte
		for _, p := range l {
			all = append(all, p.Data...)
		}
		if n := Weight(l); n != len(all) {
			t.Fatalf("P2102: Weight(%s): %d; want %d", shown(l), n, len(all))
		}
	}
}

// TestP2102NoBytes: no row and an empty one are the same.
func TestP2102NoBytes(t *testing.T) {
	for _, a := range [][]byte{nil, {}, make([]byte, 0, 9)} {
		for _, data := range [][]byte{nil, {}, []byte("x")} {
			if b, e := Apply(a, patches(api.Patch{Data: data})); !bytes.Equal(b, data) || e != api.OK {
				t.Errorf("P2102: %q from nothing: %q, %v", data, b, e)
			}
		}
	}
}
