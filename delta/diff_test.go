package delta

import (
	"bytes"
	"slices"
	"strings"
	"testing"

	"turnpike/api"
)

// isDiff asks for just these patches, and that they make the second row of the first.
func isDiff(t *testing.T, a, b string, want ...api.Patch) {
	t.Helper()
	l := Diff([]byte(a), []byte(b))
	if !alike(l, want) {
		t.Fatalf("P2101: Diff(%.100q, %.100q): %s; want %s", a, b, shown(l), shown(want))
	}
	if out, e := Apply([]byte(a), l); string(out) != b || e != api.OK {
		t.Fatalf("P2105: %.100q by Diff(%.100q, %.100q): %s, %v", a, a, b, short(out), e)
	}
}

func TestP2101Examples(t *testing.T) {
	isDiff(t, "abcde", "abXe", patch(2, 2, "X"))
	isDiff(t, "aa", "aaa", patch(2, 0, "a"))
}

// TestP2101Same: none; that is no patch, not one that does nothing.
func TestP2101Same(t *testing.T) {
	for _, s := range []string{"", "a", "\x00", "abc", "aaaa", strings.Repeat("ab", 5000)} {
		isDiff(t, s, s)
	}
	row := []byte("abc")
	for _, x := range [][2][]byte{{row, row}, {nil, nil}, {nil, {}}, {{}, nil}, {row[:1], row[:1:1]}} {
		if l := Diff(x[0], x[1]); len(l) != 0 {
			t.Errorf("P2101: Diff(%q, %q): %s", x[0], x[1], shown(l))
		}
	}
}

func TestP2101ByHand(t *testing.T) {
	for _, x := range []struct {
		a, b       string
		keep, drop int
		data       string
	}{
		// One of them empty.
		{"", "x", 0, 0, "x"}, {"", "xyz", 0, 0, "xyz"}, {"x", "", 0, 1, ""}, {"xyz", "", 0, 3, ""},
		// A first part alike.
		{"abc", "abX", 2, 1, "X"}, {"abc", "ab", 2, 1, ""}, {"ab", "abc", 2, 0, "c"}, {"abcd", "abXYZ", 2, 2, "XYZ"}, {"a", "ab", 1, 0, "b"},
		// A last part alike.
		{"abc", "Xbc", 0, 1, "X"}, {"abc", "bc", 0, 1, ""}, {"bc", "abc", 0, 0, "a"}, {"abcd", "XYZcd", 0, 2, "XYZ"},
		// Both.
		{"abc", "aXc", 1, 1, "X"}, {"abc", "ac", 1, 1, ""}, {"ac", "abc", 1, 0, "b"}, {"abcdef", "abXYf", 2, 3, "XY"}, {"ab12cd", "ab34cd", 2, 2, "34"},
		// What is alike would overlap: in a, in b, in both.
		{"aba", "ababa", 3, 0, "ba"}, {"ababa", "aba", 3, 2, ""}, {"aaa", "aa", 2, 1, ""}, {"aaaa", "a", 1, 3, ""}, {"a", "aaaa", 1, 0, "aaa"}, {"abcabc", "abc", 3, 3, ""}, {"abc", "abcabc", 3, 0, "abc"},
		{"aXa", "aXaXa", 3, 0, "Xa"}, {"abab", "abXab", 2, 0, "X"}, {"aab", "aaab", 2, 0, "a"}, {"abb", "abbb", 3, 0, "b"}, {"abcb", "abcbcb", 4, 0, "cb"}, {"xaby", "xababy", 3, 0, "ab"}, {"xababy", "xaby", 3, 2, ""},
		// Nothing alike.
		{"abc", "xyz", 0, 3, "xyz"}, {"abc", "x", 0, 3, "x"}, {"a", "xyz", 0, 1, "xyz"}, {"ab", "ba", 0, 2, "ba"}, {"abc", "bca", 0, 3, "bca"},
		// Alike in the middle alone: one patch all the same.
		{"1abc2", "3abc4", 0, 5, "3abc4"}, {"x1abc2y", "x3abc4y", 1, 5, "3abc4"},
		// Bytes that are no letters.
		{"\x00\xff\x00", "\x00\xfe\x00", 1, 1, "\xfe"}, {"\x80", "\x00", 0, 1, "\x00"}, {"\xff", "\xff\x00", 1, 0, "\x00"}, {"äö", "äü", 3, 1, "\xbc"},
	} {
		isDiff(t, x.a, x.b, patch(x.keep, x.drop, x.data))
	}
}

// TestP2101All: of each two short rows of few letters.
func TestP2101All(t *testing.T) {
	for _, l := range [][]string{rows("ab", 6), rows("abc", 4)} {
		for _, a := range l {
			for _, b := range l {
				isDiff(t, a, b, diffBy(a, b)...)
			}
		}
	}
}

// TestP2101AsTheChapterSays: of rows without a pattern that have parts alike.
func TestP2101AsTheChapterSays(t *testing.T) {
	next := counter()
	seen := map[string]int{}
	for range 20000 {
		first, last := someRow(next, one(next, 1, 4, 30)), someRow(next, one(next, 1, 4, 30))
		a := string(slices.Concat(first, someRow(next, one(next, 1, 3, 40)), last))
		b := string(slices.Concat(first, someRow(next, one(next, 1, 3, 40)), last))
		want := diffBy(a, b)
		isDiff(t, a, b, want...)
		kind := "same"
		if len(want) > 0 {
			p := want[0]
			kind = strings.Join([]string{sign(p.Keep), sign(p.Drop), sign(len(p.Data)), sign(len(a) - p.Keep - p.Drop)}, "")
		}
		seen[kind]++
	}
	// Nothing dropped and nothing brought would be the same row.
	for _, kind := range []string{"same", "0++0", "0+++", "0+0+", "00++", "+++0", "++++", "++0+", "+0++", "++00", "+0+0", "0+00", "00+0"} {
		if seen[kind] < 15 {
			t.Errorf("only %d pairs of kind %s: %v", seen[kind], kind, seen)
		}
	}
}

func sign(n int) string {
	if n == 0 {
		return "0"
	}
	return "+"
}

// TestP2101Long: rows as long as an image, with a byte turned at a place, taken out, or laid in.
func TestP2101Long(t *testing.T) {
	a := someBytes(counter(), api.MaxImage, 256)
	for _, at := range []int{0, 1, 100000, len(a) - 2, len(a) - 1} {
		b := bytes.Clone(a)
		b[at] ^= 1
		if l := Diff(a, b); !alike(l, patches(patch(at, 1, string(b[at:at+1])))) {
			t.Errorf("P2101: the byte %d turned: %s", at, shown(l))
		}
	}
	// No byte is that of the one beside it, so that each place is told as it is.
	for i := range a {
		a[i] = byte(i % 251)
	}
	for _, at := range []int{0, 1, 100000, len(a) - 1} {
		if l := Diff(a, slices.Delete(bytes.Clone(a), at, at+1)); !alike(l, patches(patch(at, 1, ""))) {
			t.Errorf("P2101: the byte %d taken out: %s", at, shown(l))
		}
		if l := Diff(a, slices.Insert(bytes.Clone(a), at, 255)); !alike(l, patches(patch(at, 0, "\xff"))) {
			t.Errorf("P2101: a byte laid in at %d: %s", at, shown(l))
		}
	}
}
