package wire

import (
	"math"
	"slices"
	"strings"
	"testing"

	"turnpike/api"
)

func TestP1303ByHand(t *testing.T) {
	m := []uint32{0xB0000000}
	for i, want := range map[int]int{0: 1, 1: 1, 2: 2, 3: 3, 4: 3, 31: 3} {
		if n, e := Rank(m, i); n != want || e != api.OK {
			t.Errorf("P1303: Rank at %d: %d, %v", i, n, e)
		}
	}
	for k, want := range []int{0, 2, 3} {
		if i, e := Select(m, k); i != want || e != api.OK {
			t.Errorf("P1303: Select %d: %d, %v", k, i, e)
		}
	}
	if i, e := Select(m, 3); i != 0 || e != api.ErrNone {
		t.Errorf("P1303: Select 3: %d, %v", i, e)
	}
	if n := Ones(m); n != 3 {
		t.Errorf("P1303: Ones: %d", n)
	}
}

// isRanked asks that Rank tells of all places of a bitmap what the chapter says, and refuses what is none.
func isRanked(t *testing.T, m []uint32) {
	t.Helper()
	s := spell(m)
	for i := range s {
		if n, e := Rank(m, i); n != rankBy(s, i) || e != api.OK {
			t.Fatalf("P1303: Rank of %s at %d: %d, %v, want %d", s, i, n, e, rankBy(s, i))
		}
	}
	for _, i := range slices.Concat(farBelow, farAbove, []int{len(s), len(s) + 1, len(s) + 31, len(s) + 32, len(s) + 33, 2*len(s) + 1}) {
		if n, e := Rank(m, i); n != 0 || e != api.ErrBounds {
			t.Fatalf("P1303: Rank of %s at %d: %d, %v", s, i, n, e)
		}
	}
}

// isSelected asks that Select tells each place that is set, in order, and no more.
func isSelected(t *testing.T, m []uint32) {
	t.Helper()
	s := spell(m)
	k := 0
	for i := range s {
		if s[i] == '0' {
			continue
		}
		if at, e := Select(m, k); at != i || e != api.OK {
			t.Fatalf("P1303: Select %d of %s: %d, %v, want %d", k, s, at, e, i)
		}
		k++
	}
	for _, k := range slices.Concat(farBelow, farAbove, []int{k, k + 1, k + 31, k + 32, len(s) + 1}) {
		if at, e := Select(m, k); at != 0 || e != api.ErrNone {
			t.Fatalf("P1303: Select %d of %s: %d, %v", k, s, at, e)
		}
	}
	if n := Ones(m); n != k || n != strings.Count(s, "1") {
		t.Fatalf("P1303: Ones of %s: %d, want %d", s, n, k)
	}
}

func TestP1303(t *testing.T) {
	for _, m := range bitmaps() {
		handed, asItWas := guarded(m, 0xEEEEEEEE)
		isRanked(t, handed)
		isSelected(t, handed)
		if !asItWas() {
			t.Fatalf("P2: %x is changed", m)
		}
	}
}

// TestP1303Words: all that a word's first half can be, and its last.
func TestP1303Words(t *testing.T) {
	for x := range uint32(1 << 16) {
		for _, m := range [][]uint32{{x << 16}, {x}} {
			s := spell(m)
			count := strings.Count(s, "1")
			if n := Ones(m); n != count {
				t.Fatalf("P1303: Ones of %s: %d", s, n)
			}
			if n, e := Rank(m, 31); n != count || e != api.OK {
				t.Fatalf("P1303: Rank of %s at 31: %d, %v", s, n, e)
			}
			at, e := Select(m, count-1)
			if last := strings.LastIndex(s, "1"); count > 0 && (at != last || e != api.OK) || count == 0 && e != api.ErrNone {
				t.Fatalf("P1303: Select %d of %s: %d, %v", count-1, s, at, e)
			}
			if at, e := Select(m, count); at != 0 || e != api.ErrNone {
				t.Fatalf("P1303: Select %d of %s: %d, %v", count, s, at, e)
			}
		}
	}
}

// TestP1303NoWords: a bitmap without words has no place, and none that is set, though there is room behind it.
func TestP1303NoWords(t *testing.T) {
	for _, m := range [][]uint32{nil, {}, []uint32{full, full}[:0]} {
		for _, i := range slices.Concat(farBelow, farAbove, []int{0, 1, 31, 32}) {
			if n, e := Rank(m, i); n != 0 || e != api.ErrBounds {
				t.Errorf("P1303: Rank at %d: %d, %v", i, n, e)
			}
			if at, e := Select(m, i); at != 0 || e != api.ErrNone {
				t.Errorf("P1303: Select %d: %d, %v", i, at, e)
			}
		}
		if n := Ones(m); n != 0 {
			t.Errorf("P1303: Ones: %d", n)
		}
	}
}

// TestP1306Select: Rank of what Select tells is one more; Select of what Rank tells, less one, is the place, if it is set, else the last one ahead of it that is.
func TestP1306Select(t *testing.T) {
	for _, m := range bitmaps() {
		for k := range Ones(m) {
			i, e := Select(m, k)
			n, f := Rank(m, i)
			if n != k+1 || e != api.OK || f != api.OK {
				t.Fatalf("P1306: %x: Select %d is %d, its Rank %d, %v, %v", m, k, i, n, e, f)
			}
		}
		s := spell(m)
		for i := range s {
			n, _ := Rank(m, i)
			at, e := Select(m, n-1)
			if last := strings.LastIndex(s[:i+1], "1"); last < 0 && e != api.ErrNone || last >= 0 && (at != last || e != api.OK) {
				t.Fatalf("P1306: %x: Rank at %d is %d, its Select %d, %v", m, i, n, at, e)
			}
		}
	}
}

// TestP1303Long: a bitmap of many words.
func TestP1303Long(t *testing.T) {
	const words = 1 << 20
	m := make([]uint32, words)
	m[0], m[words-1] = highest, 1
	for i, want := range map[int]int{0: 1, 1: 1, 32*words - 2: 1, 32*words - 1: 2} {
		if n, e := Rank(m, i); n != want || e != api.OK {
			t.Errorf("P1303: Rank at %d: %d, %v", i, n, e)
		}
	}
	if i, e := Select(m, 1); i != 32*words-1 || e != api.OK {
		t.Errorf("P1303: Select 1: %d, %v", i, e)
	}
	overwrite(m, full)
	if n := Ones(m); n != 32*words {
		t.Errorf("P1303: Ones: %d", n)
	}
	for _, k := range []int{0, 1, 31, 32, 33, 12345678, 32*words - 1} {
		n, e := Rank(m, k)
		i, f := Select(m, k)
		if n != k+1 || i != k || e != api.OK || f != api.OK {
			t.Errorf("P1303: of all ones at %d: %d, %d, %v, %v", k, n, i, e, f)
		}
	}
	for _, k := range []int{32 * words, math.MaxInt} {
		_, e := Rank(m, k)
		if _, f := Select(m, k); e != api.ErrBounds || f != api.ErrNone {
			t.Errorf("P1303: of all ones at %d: %v, %v", k, e, f)
		}
	}
}
