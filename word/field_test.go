package word

import (
	"math/big"
	"testing"

	"turnpike/api"
)

// isStretch tells by numbers that cannot overflow whether a word has n bits from a place on.
func isStretch(from, n int) bool {
	if from < 0 || n < 0 {
		return false
	}
	end := new(big.Int).Add(big.NewInt(int64(from)), big.NewInt(int64(n)))
	return end.Cmp(big.NewInt(128)) <= 0
}

// fieldOf reads a stretch bit by bit.
func fieldOf(w api.Word, from, n int) api.Word {
	v := new(big.Int)
	for i := range n {
		v.Lsh(v, 1).Or(v, big.NewInt(int64(bitOf(w, from+i))))
	}
	return wordOf(v)
}

// fieldWords are few enough to be asked about all stretches.
func fieldWords() []api.Word {
	l := samples()
	return []api.Word{{}, ones, l[14], l[15], l[len(l)-1]}
}

func TestP105Field(t *testing.T) {
	for _, w := range fieldWords() {
		for from := range 129 {
			for n := range 129 - from {
				got, e := Field(w, from, n)
				if want := fieldOf(w, from, n); e != api.OK || got != want {
					t.Fatalf("Field(%x, %d, %d) = %x, %v, want %x", w, from, n, got, e, want)
				}
			}
		}
	}
	if v, e := Field(Mask(8), 4, 8); e != api.OK || v != (api.Word{Lo: 0xf0}) {
		t.Errorf("Field(Mask(8), 4, 8) = %x, %v", v, e)
	}
}

func TestP105FieldEdges(t *testing.T) {
	for _, x := range []struct {
		from, n int
		want    api.Word
	}{
		{0, 128, ones}, {0, 0, api.Word{}}, {64, 0, api.Word{}}, {128, 0, api.Word{}},
		{127, 1, api.Word{Lo: 1}}, {64, 64, api.Word{Lo: ^uint64(0)}}, {63, 65, api.Word{Hi: 1, Lo: ^uint64(0)}},
	} {
		if got, e := Field(ones, x.from, x.n); e != api.OK || got != x.want {
			t.Errorf("Field(all ones, %d, %d) = %x, %v, want %x", x.from, x.n, got, e, x.want)
		}
	}
}

func TestP105NoStretch(t *testing.T) {
	// Of these values those that are not numbers of n bits show that ErrArg is ahead of ErrWide.
	for _, from := range places() {
		for _, n := range places() {
			if isStretch(from, n) {
				continue
			}
			if got, e := Field(ones, from, n); e != api.ErrArg || got != (api.Word{}) {
				t.Fatalf("Field(all ones, %d, %d) = %x, %v, want ErrArg", from, n, got, e)
			}
			for _, v := range []api.Word{{}, {Lo: 1}, ones} {
				if got, e := With(ones, from, n, v); e != api.ErrArg || got != (api.Word{}) {
					t.Fatalf("With(all ones, %d, %d, %x) = %x, %v, want ErrArg", from, n, v, got, e)
				}
			}
		}
	}
}

// checkWith holds an answer of With against P105, bit by bit.
func checkWith(t *testing.T, w api.Word, from, n int, v api.Word) {
	t.Helper()
	got, e := With(w, from, n, v)
	want := fromBits(func(i int) int {
		if i < from || i >= from+n {
			return bitOf(w, i)
		}
		return bitOf(v, 128-n+i-from)
	})
	if e != api.OK || got != want {
		t.Fatalf("With(%x, %d, %d, %x) = %x, %v, want %x", w, from, n, v, got, e, want)
	}
	if f, e := Field(got, from, n); e != api.OK || f != v {
		t.Fatalf("Field of With(%x, %d, %d, %x) = %x, %v", w, from, n, v, f, e)
	}
}

func TestP105With(t *testing.T) {
	for _, w := range fieldWords() {
		for _, from := range []int{0, 1, 31, 32, 60, 63, 64, 65, 100, 120, 127, 128} {
			for _, n := range []int{0, 1, 2, 8, 31, 32, 63, 64, 65, 68, 96, 127, 128} {
				if !isStretch(from, n) {
					continue
				}
				checkWith(t, w, from, n, api.Word{})
				checkWith(t, w, from, n, fieldOf(ones, 0, n))
				checkWith(t, w, from, n, fieldOf(samples()[14], 0, n))
			}
		}
	}
}

func TestP105WithTooWide(t *testing.T) {
	for n := range 128 {
		least := wordOf(new(big.Int).Lsh(big.NewInt(1), uint(n)))
		for _, from := range []int{0, 128 - n} {
			for _, v := range []api.Word{least, ones, {Hi: 1 << 63}} {
				if got, e := With(ones, from, n, v); e != api.ErrWide || got != (api.Word{}) {
					t.Fatalf("With(all ones, %d, %d, %x) = %x, %v, want ErrWide", from, n, v, got, e)
				}
			}
		}
	}
	if got, e := With(api.Word{}, 120, 8, api.Word{Lo: 300}); e != api.ErrWide || got != (api.Word{}) {
		t.Errorf("With(0, 120, 8, 300) = %x, %v, want ErrWide", got, e)
	}
	if got, e := With(api.Word{}, 0, 128, ones); e != api.OK || got != ones {
		t.Errorf("all 128 bits: %x, %v", got, e)
	}
}
