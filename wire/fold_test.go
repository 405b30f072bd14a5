package wire

import (
	"fmt"
	"math"
	"slices"
	"strconv"
	"strings"
	"testing"

	"turnpike/api"
)

// foldBy is Fold by the chapter's words: which places are set is a text, and how many words it needs is found by trying.
func foldBy[T comparable](l []T) ([]uint32, []T) {
	s := ""
	var firsts []T
	for i, x := range l {
		if i > 0 && x == l[i-1] {
			s += "0"
			continue
		}
		s += "1"
		firsts = append(firsts, x)
	}
	words := 0
	for 32*words < len(l) {
		words++
	}
	return mapOf(s + strings.Repeat("0", 32*words-len(s))), firsts
}

// unfoldBy is Unfold by the chapter's words.
func unfoldBy[T comparable](m []uint32, n int, l []T) ([]T, api.Errno) {
	if n < 0 {
		return nil, api.ErrArg
	}
	s := spell(m)
	if tooFew, tooMany := n > len(s), len(s) >= 32 && n <= len(s)-32; tooFew || tooMany {
		return nil, api.ErrMap
	}
	if strings.Contains(s[n:], "1") || n != 0 && s[0] == '0' || strings.Count(s, "1") != len(l) {
		return nil, api.ErrMap
	}
	for i := range l {
		if i > 0 && l[i] == l[i-1] {
			return nil, api.ErrMap
		}
	}
	var row []T
	for i := range n {
		row = append(row, l[rankBy(s, i)-1])
	}
	return row, api.OK
}

// isFolded asks that a row is folded as the chapter says, unfolded again, and folded again (P1304, P1306); that what is handed in is not changed, and that what is told is the caller's own (P2).
func isFolded[T comparable](t *testing.T, l []T, mark T) {
	t.Helper()
	row, rowAsItWas := guarded(l, mark)
	m, firsts := Fold(row)
	wantMap, wantFirsts := foldBy(l)
	if !slices.Equal(m, wantMap) || !slices.Equal(firsts, wantFirsts) {
		t.Fatalf("P1304: Fold of %v: %x, %v, want %x, %v", l, m, firsts, wantMap, wantFirsts)
	}
	handedMap, mapAsItWas := guarded(m, 0xEEEEEEEE)
	handedFirsts, firstsAsTheyWere := guarded(firsts, mark)
	back, e := Unfold(handedMap, len(l), handedFirsts)
	if !slices.Equal(back, l) || e != api.OK {
		t.Fatalf("P1306: Unfold of Fold of %v: %v, %v", l, back, e)
	}
	if again, f := Unfold(handedMap, len(l), handedFirsts); !slices.Equal(again, back) || f != e {
		t.Fatalf("P3: Unfold of Fold of %v: %v, %v", l, again, f)
	}
	otherMap, otherFirsts := Fold(back)
	if !slices.Equal(otherMap, m) || !slices.Equal(otherFirsts, firsts) {
		t.Fatalf("P1306: Fold of Unfold of %x, %v: %x, %v", m, firsts, otherMap, otherFirsts)
	}
	overwrite(m, 0xDDDDDDDD)
	if !slices.Equal(firsts, otherFirsts) {
		t.Fatalf("P2: two lists of one answer share memory: %v", l)
	}
	overwrite(firsts, mark)
	overwrite(back, mark)
	if !rowAsItWas() || !mapAsItWas() || !firstsAsTheyWere() {
		t.Fatalf("P2: what was handed in is changed, or an answer is no new memory: %v", l)
	}
	overwrite(row, mark)
	overwrite(handedFirsts, mark)
	overwrite(handedMap, 0xDDDDDDDD)
	if !slices.Equal(otherMap, wantMap) || !slices.Equal(otherFirsts, wantFirsts) {
		t.Fatalf("P2: answers share memory: %v", l)
	}
}

// rowOf is a row of other elements, made of one of numbers.
func rowOf[T any](l []int, of func(n int) T) []T {
	var row []T
	for _, n := range l {
		row = append(row, of(n))
	}
	return row
}

func TestP1304ByHand(t *testing.T) {
	m, l := Fold([]int{5, 5, 7, 5})
	if !slices.Equal(m, []uint32{0xB0000000}) || !slices.Equal(l, []int{5, 7, 5}) {
		t.Errorf("P1304: %x, %v", m, l)
	}
	if row, e := Unfold(m, 4, l); !slices.Equal(row, []int{5, 5, 7, 5}) || e != api.OK {
		t.Errorf("P1304: %v, %v", row, e)
	}
	if row, e := Unfold(m, 3, l); len(row) != 0 || e != api.ErrMap {
		t.Errorf("P1304: %v, %v", row, e)
	}
	for _, x := range []struct {
		row    string
		m      []uint32
		firsts string
	}{
		{"", nil, ""}, {"a", []uint32{0x80000000}, "a"}, {"ab", []uint32{0xC0000000}, "ab"}, {"aa", []uint32{0x80000000}, "a"}, {"aba", []uint32{0xE0000000}, "aba"},
		{strings.Repeat("a", 31), []uint32{0x80000000}, "a"}, {strings.Repeat("a", 32), []uint32{0x80000000}, "a"}, {strings.Repeat("a", 33), []uint32{0x80000000, 0}, "a"}, {strings.Repeat("a", 64), []uint32{0x80000000, 0}, "a"}, {strings.Repeat("a", 65), []uint32{0x80000000, 0, 0}, "a"},
		{strings.Repeat("ab", 15) + "a", []uint32{0xFFFFFFFE}, strings.Repeat("ab", 15) + "a"}, {strings.Repeat("ab", 16), []uint32{full}, strings.Repeat("ab", 16)}, {strings.Repeat("ab", 16) + "a", []uint32{full, 0x80000000}, strings.Repeat("ab", 16) + "a"},
		{strings.Repeat("a", 31) + "b", []uint32{0x80000001}, "ab"}, {strings.Repeat("a", 32) + "b", []uint32{0x80000000, 0x80000000}, "ab"}, {strings.Repeat("a", 33) + "b", []uint32{0x80000000, 0x40000000}, "ab"},
	} {
		m, l := Fold([]byte(x.row))
		if !slices.Equal(m, x.m) || string(l) != x.firsts {
			t.Errorf("P1304: Fold of %s: %x, %s", x.row, m, l)
		}
		if row, e := Unfold(x.m, len(x.row), []byte(x.firsts)); string(row) != x.row || e != api.OK {
			t.Errorf("P1304: Unfold of %x, %s: %s, %v", x.m, x.firsts, row, e)
		}
	}
}

// pair is an element of several parts, all of which must be the same.
type pair struct {
	n    int
	name string
	at   [2]bool
}

// TestP1304Rows: rows of numbers, texts and more.
func TestP1304Rows(t *testing.T) {
	places := make([]int, 2000)
	for _, l := range rows() {
		isFolded(t, l, -5)
		isFolded(t, rowOf(l, func(n int) uint32 { return uint32(n) }), 0xDDDDDDDD)
		isFolded(t, rowOf(l, func(n int) byte { return byte(n) }), 0xDD)
		isFolded(t, rowOf(l, func(n int) bool { return n%2 == 0 }), true)
		isFolded(t, rowOf(l, func(n int) string { return strings.Repeat("x", n%3) + strconv.Itoa(n) }), "mark")
		isFolded(t, rowOf(l, func(n int) float64 { return float64(n) / 3 }), -5)
		isFolded(t, rowOf(l, func(n int) complex128 { return complex(float64(n%2), float64(n/2)) }), -5)
		isFolded(t, rowOf(l, func(n int) [2]int { return [2]int{n % 2, n / 2} }), [2]int{-5, -5})
		isFolded(t, rowOf(l, func(n int) pair { return pair{n: n / 4, name: "name", at: [2]bool{n%2 == 0, n/2%2 == 0}} }), pair{n: -5})
		isFolded(t, rowOf(l, func(n int) api.Route { return api.Route{At: api.Prefix{Len: n}, Hop: 1} }), api.Route{Hop: -5})
		isFolded(t, rowOf(l, func(n int) *int { return &places[n] }), nil)
		isFolded(t, rowOf(l, func(n int) struct{} { return struct{}{} }), struct{}{})
		isFolded(t, rowOf(l, func(n int) any { return []any{nil, n, "text", byte(n), pair{n: n}}[n%5] }), any("mark"))
	}
}

// smallRows goes over all rows of up to so many elements of 0 to kinds - 1.
func smallRows(size, kinds int, yield func(l []int)) {
	var longer func(l []int)
	longer = func(l []int) {
		yield(l)
		if len(l) == size {
			return
		}
		for n := range kinds {
			longer(append(slices.Clone(l), n))
		}
	}
	longer(nil)
}

func TestP1304SmallRows(t *testing.T) {
	count := 0
	smallRows(7, 3, func(l []int) {
		count++
		isFolded(t, l, -5)
	})
	if want := (2187*3 - 1) / 2; count != want {
		t.Errorf("%d rows, want %d", count, want)
	}
}

// isUnfolded asks that Unfold tells what the chapter says, and where it is no error, that Fold tells what was handed in (P1306).
func isUnfolded(t *testing.T, m []uint32, n int, l []int) api.Errno {
	t.Helper()
	want, wantError := unfoldBy(m, n, l)
	handedMap, mapAsItWas := guarded(m, 0xEEEEEEEE)
	handedList, listAsItWas := guarded(l, -5)
	row, e := Unfold(handedMap, n, handedList)
	if !slices.Equal(row, want) || e != wantError {
		t.Fatalf("P1304: Unfold(%x, %d, %v): %v, %v, want %v, %v", m, n, l, row, e, want, wantError)
	}
	if e == api.OK {
		if againMap, again := Fold(row); !slices.Equal(againMap, m) || !slices.Equal(again, l) {
			t.Fatalf("P1306: Fold of Unfold(%x, %d, %v): %x, %v", m, n, l, againMap, again)
		}
	}
	overwrite(row, -5)
	if !mapAsItWas() || !listAsItWas() {
		t.Fatalf("P2: Unfold(%x, %d, %v) changes what it is handed, or answers it", m, n, l)
	}
	return e
}

// TestP1304Wrong: each of Unfold's errors by itself, and ErrArg ahead of ErrMap.
func TestP1304Wrong(t *testing.T) {
	m, l := []uint32{0xB0000000}, []int{5, 7, 5}
	for name, x := range map[string]struct {
		m    []uint32
		n    int
		l    []int
		want api.Errno
	}{
		"right":                                 {m, 4, l, api.OK},
		"right, longer":                         {m, 32, l, api.OK},
		"right, all places":                     {[]uint32{0xB0000001}, 32, []int{5, 7, 5, 1}, api.OK},
		"right, no elements":                    {nil, 0, nil, api.OK},
		"right, equal elements apart":           {[]uint32{0xF0000000}, 4, []int{1, 2, 1, 2}, api.OK},
		"n below 0":                             {m, -1, l, api.ErrArg},
		"n below 0, no words":                   {nil, -1, nil, api.ErrArg},
		"n far below 0":                         {m, math.MinInt, l, api.ErrArg},
		"n below 0, by all places of a word":    {m, -32, l, api.ErrArg},
		"n below 0, and all else wrong":         {[]uint32{1, 2, 3}, -4, []int{1, 1}, api.ErrArg},
		"a word too few":                        {m, 33, l, api.ErrMap},
		"no word":                               {nil, 1, []int{5}, api.ErrMap},
		"no word, no element":                   {nil, 1, nil, api.ErrMap},
		"a word too many":                       {[]uint32{0xB0000000, 0}, 4, l, api.ErrMap},
		"a word too many, the last full":        {[]uint32{0xB0000000, 0}, 32, l, api.ErrMap},
		"a word ahead":                          {[]uint32{0, 0xB0000000}, 4, l, api.ErrMap},
		"far too few":                           {m, math.MaxInt, l, api.ErrMap},
		"far too few, by 31":                    {m, math.MaxInt - 31, l, api.ErrMap},
		"far too few, none":                     {nil, math.MaxInt, nil, api.ErrMap},
		"far too few, of a number of 32 bits":   {m, 1<<32 + 4, l, api.ErrMap},
		"a place from n on":                     {m, 3, l, api.ErrMap},
		"a place from n on, the last":           {[]uint32{0xB0000001}, 31, []int{5, 7, 5, 1}, api.ErrMap},
		"a place from n on, in the last word":   {[]uint32{0x80000000, 0x08000000}, 36, []int{5, 7}, api.ErrMap},
		"no place from n on, in the last word":  {[]uint32{0x80000000, 0x08000000}, 37, []int{5, 7}, api.OK},
		"a place from n on, the last of two":    {[]uint32{0x80000000, 0x00000001}, 63, []int{5, 7}, api.ErrMap},
		"no place from n on, the last of two":   {[]uint32{0x80000000, 0x00000001}, 64, []int{5, 7}, api.OK},
		"a place from n on, as many as l":       {m, 3, []int{5, 7}, api.ErrMap},
		"place 0 is not set":                    {[]uint32{0x40000000}, 4, []int{1}, api.ErrMap},
		"no place is set":                       {[]uint32{0}, 4, nil, api.ErrMap},
		"place 0 is not set, of two words":      {[]uint32{0, 0x80000000}, 40, []int{1}, api.ErrMap},
		"an element too few":                    {m, 4, []int{5, 7}, api.ErrMap},
		"no elements":                           {m, 4, nil, api.ErrMap},
		"an element too many":                   {m, 4, []int{5, 7, 5, 7}, api.ErrMap},
		"the first two equal":                   {m, 4, []int{5, 5, 7}, api.ErrMap},
		"the last two equal":                    {m, 4, []int{5, 7, 7}, api.ErrMap},
		"all equal":                             {m, 4, []int{0, 0, 0}, api.ErrMap},
		"none, a word":                          {m, 0, nil, api.ErrMap},
		"none, a word and its elements":         {m, 0, l, api.ErrMap},
		"none, a word of which no place is set": {[]uint32{0}, 0, nil, api.ErrMap},
		"none, an element":                      {nil, 0, []int{1}, api.ErrMap},
		"none, elements":                        {nil, 0, []int{1, 2}, api.ErrMap},
	} {
		if e := isUnfolded(t, x.m, x.n, x.l); e != x.want {
			t.Errorf("P1304: %s: %v, want %v", name, e, x.want)
		}
	}
	for _, n := range farBelow {
		for _, m := range bitmaps() {
			if row, e := Unfold(m, n, l); len(row) != 0 || e != api.ErrArg {
				t.Fatalf("P1304: Unfold(%x, %d, ..): %v", m, n, e)
			}
		}
	}
	for _, n := range farAbove {
		for _, m := range bitmaps() {
			if row, e := Unfold(m, n, l); len(row) != 0 || e != api.ErrMap {
				t.Fatalf("P1304: Unfold(%x, %d, ..): %v", m, n, e)
			}
		}
	}
}

// TestP1304SmallMaps: all that the first six places can be, by all numbers of elements around them, and all short lists.
func TestP1304SmallMaps(t *testing.T) {
	right := 0
	smallRows(5, 2, func(l []int) {
		for places := range uint32(1 << 6) {
			for _, n := range []int{-1, 0, 1, 2, 3, 4, 5, 6, 7, 32, 33} {
				if isUnfolded(t, []uint32{places << 26}, n, l) == api.OK {
					right++
				}
			}
			isUnfolded(t, []uint32{places << 26, 0}, 6, l)
			isUnfolded(t, []uint32{0x80000000, places}, 64, l)
		}
	})
	// Two lists of each length have no neighbours that are equal: so twice the maps of n places, place 0 set, but for the one of six that are set, to which no list is long enough.
	if want := 2 * (1 + 2 + 4 + 8 + 16 + 3*31); right != want {
		t.Errorf("%d are right, want %d", right, want)
	}
}

// TestP1304Maps: bitmaps of many kinds, by all numbers of elements that are near.
func TestP1304Maps(t *testing.T) {
	next := counter()
	right := 0
	maps := bitmaps()
	for _, m := range maps {
		if len(m) > 0 {
			m = slices.Clone(m)
			m[0] |= highest
			maps = append(maps, m)
		}
	}
	for _, m := range maps {
		l := someRow(next, Ones(m), 1000, 0)
		for i := range l {
			l[i] = 2*l[i] + i%2
		}
		for n := 32*len(m) - 34; n < 32*len(m)+34; n++ {
			if isUnfolded(t, m, n, l) == api.OK {
				right++
			}
		}
		if len(l) > 1 {
			at := 1 + int(next()>>5%uint64(len(l)-1))
			l[at] = l[at-1]
			if e := isUnfolded(t, m, 32*len(m), l); e != api.ErrMap {
				t.Errorf("P1304: two neighbours are equal: %v", e)
			}
		}
	}
	if right < 1000 {
		t.Errorf("only %d are right", right)
	}
}

// TestP1304BitsTurned: one place of a row's bitmap turned is refused, wherever it is, for there are not as many set as there are elements then.
func TestP1304BitsTurned(t *testing.T) {
	for _, row := range rows() {
		m, l := Fold(row)
		for i := range 32 * min(len(m), 4) {
			other := slices.Clone(m)
			other[i/32] ^= 1 << (31 - i%32)
			if back, e := Unfold(other, len(row), l); len(back) != 0 || e != api.ErrMap {
				t.Fatalf("P1304: place %d of %x turned: %v", i, m, e)
			}
		}
	}
}

// TestP1304Noughts: the two noughts of floats are equal, and the first one stands for both.
func TestP1304Noughts(t *testing.T) {
	below := math.Copysign(0, -1)
	m, l := Fold([]float64{0, below, 0, 1, below})
	if !slices.Equal(m, []uint32{0x98000000}) || !slices.Equal(l, []float64{0, 1, 0}) {
		t.Errorf("P1304: %x, %v", m, l)
	}
	if row, e := Unfold([]uint32{0xC0000000}, 2, []float64{0, below}); len(row) != 0 || e != api.ErrMap {
		t.Errorf("P1304: %v, %v", row, e)
	}
}

// TestP1OfAnything: of elements that are not equal to themselves, or cannot be compared, calls still end, without a panic, and change nothing.
func TestP1OfAnything(t *testing.T) {
	nan := math.NaN()
	m, l := Fold([]float64{nan, nan, 1})
	if row, e := Unfold(m, 3, l); len(row) != 3 || e != api.OK {
		t.Errorf("P1: %v, %v", row, e)
	}
	type open struct{ inside any }
	for _, x := range []any{[]int{1}, map[int]int{}, func() {}, open{[]int{1}}, [1]any{[]int{1}}} {
		for _, row := range [][]any{{x}, {x, x}, {1, x, x, 1, 1}, {x, 1, x}} {
			was := fmt.Sprintf("%T %T", row[0], row[len(row)-1])
			m, l := Fold(row)
			Unfold(m, len(row), l)
			Unfold(m, 1, l)
			Unfold([]uint32{0xC0000000}, 2, []any{x, x})
			if fmt.Sprintf("%T %T", row[0], row[len(row)-1]) != was {
				t.Errorf("P2: a row of %T is changed", x)
			}
		}
	}
}

// TestP2NoList: no list and an empty one are the same.
func TestP2NoList(t *testing.T) {
	for _, l := range [][]string{nil, {}, make([]string, 0, 9)} {
		if m, firsts := Fold(l); len(m) != 0 || len(firsts) != 0 {
			t.Errorf("P1304: %x, %v", m, firsts)
		}
		for _, m := range [][]uint32{nil, {}, make([]uint32, 0, 9)} {
			if row, e := Unfold(m, 0, l); len(row) != 0 || e != api.OK {
				t.Errorf("P1304: %v, %v", row, e)
			}
			if row, e := Unfold(m, 1, l); len(row) != 0 || e != api.ErrMap {
				t.Errorf("P1304: %v, %v", row, e)
			}
		}
	}
}

// TestP1304Long: as many elements as the greatest node that is laid has slots.
func TestP1304Long(t *testing.T) {
	row := make([]int, 1<<api.MaxBits+1)
	for i := range row {
		row[i] = i / 3
	}
	m, l := Fold(row)
	if len(m) != 1<<(api.MaxBits-5)+1 || len(l) != len(row)/3+1 || Ones(m) != len(l) {
		t.Errorf("P1304: %d words, %d elements", len(m), len(l))
	}
	if back, e := Unfold(m, len(row), l); !slices.Equal(back, row) || e != api.OK {
		t.Errorf("P1306: %d elements, %v", len(back), e)
	}
	if back, e := Unfold(m, len(row)-1, l); len(back) != 0 || e != api.ErrMap {
		t.Errorf("P1304: %d elements, %v", len(back), e)
	}
}
