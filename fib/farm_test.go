package fib

import (
	"math"
	"runtime"
	"slices"
	"strings"
	"testing"

	"turnpike/api"
)

// isFarmed asks that Farm tells just these next hops.
func isFarmed(t *testing.T, crew int, b []byte, l []api.Word, want []int) {
	t.Helper()
	if got, e := Farm(crew, b, l); e != api.OK || !slices.Equal(got, want) {
		t.Fatalf("P2005: %d goroutines, %d addresses, %s: %.300v, %v; want %.300v", crew, len(l), short(b), got, e, want)
	}
}

// isNotFarmed asks for an error, and no list beside it.
func isNotFarmed(t *testing.T, crew int, b []byte, l []api.Word, e api.Errno) {
	t.Helper()
	if got, is := Farm(crew, b, l); is != e || len(got) != 0 {
		t.Fatalf("P2005: %d goroutines, %d addresses, %s: %.300v, %v; want %v", crew, len(l), short(b), got, is, e)
	}
}

// noCrews are numbers of goroutines that may not be.
var noCrews = []int{math.MinInt, math.MinInt + 1, -1 << 32, -8, -1, 0, 9, 10, 16, 256 + 1, 1<<32 + 1, math.MaxInt}

func TestP2005ByHand(t *testing.T) {
	b := framed(32, 1, 3, codeOf("x1 i1:c0000000 r5 r0"))
	l := []api.Word{wordOf("1"), wordOf("01"), wordOf(""), wordOf("11"), wordOf("01")}
	for crew := 1; crew <= 8; crew++ {
		isFarmed(t, crew, b, l, []int{0, 5, 5, 0, 5})
		isFarmed(t, crew, b, nil, nil)
		isFarmed(t, crew, b, []api.Word{}, nil)
		isFarmed(t, crew, b, l[:1], []int{0})
		isFarmed(t, crew, b, l[1:2], []int{5})
		isFarmed(t, crew, framed(128, 0, 1, codeOf("r65535")), []api.Word{{}, {Lo: 1}, {Hi: math.MaxUint64, Lo: math.MaxUint64}}, []int{65535, 65535, 65535})
	}
}

// TestP2005Crews: ErrArg of what is no crew, ahead of all else that is wrong.
func TestP2005Crews(t *testing.T) {
	right := framed(32, 0, 1, codeOf("r9"))
	for _, crew := range noCrews {
		for _, b := range [][]byte{right, nil, right[:19], framed(32, 0, 1, codeOf("r9 r9"))} {
			for _, l := range [][]api.Word{nil, {{}}, {{Lo: 1}}} {
				isNotFarmed(t, crew, b, l, api.ErrArg)
			}
		}
	}
}

// TestP2005NotLoaded: the number of Load's error, ahead of ErrWide, also where there are no addresses.
func TestP2005NotLoaded(t *testing.T) {
	right := framed(32, 1, 3, codeOf("x1 i1:c0000000 r5 r0"))
	for crew := 1; crew <= 8; crew++ {
		for _, l := range [][]api.Word{nil, {{}}, {{Lo: 1}}, slices.Repeat([]api.Word{{}}, 1000)} {
			for size := range right {
				isNotFarmed(t, crew, right[:size], l, api.ErrCut)
			}
			isNotFarmed(t, crew, append(slices.Clone(right), 0), l, api.ErrCut)
			isNotFarmed(t, crew, spoilt(right, 0, 'X'), l, api.ErrMagic)
			isNotFarmed(t, crew, spoilt(right, 4, 64), l, api.ErrFamily)
			isNotFarmed(t, crew, spoilt(right, 7, 4), l, api.ErrSteps)
			isNotFarmed(t, crew, spoilt(right, 8, 1), l, api.ErrSize)
			isNotFarmed(t, crew, spoilt(right, 35, 1), l, api.ErrSum)
			isNotFarmed(t, crew, framed(32, 2, 6, codeOf("x1 i1:c0000000 r5 r0")), l, api.ErrSteps)
			for _, x := range unfit {
				isNotFarmed(t, crew, framed(32, 0, 1, codeOf(x.text)), l, x.e)
			}
		}
	}
}

// TestP2005Wide: a word that is no address, at any place among others that are some.
func TestP2005Wide(t *testing.T) {
	b := framed(32, 0, 1, codeOf("r9"))
	for _, size := range []int{1, 2, 9, 100, 5000} {
		l := slices.Repeat([]api.Word{wordOf("1")}, size)
		want := slices.Repeat([]int{9}, size)
		for crew := 1; crew <= 8; crew++ {
			isFarmed(t, crew, b, l, want)
			for _, at := range []int{0, size / 2, size - 1} {
				for _, w := range []api.Word{{Lo: 1}, {Lo: 1 << 63}, {Hi: 1 << 31}, {Hi: 1}, {Hi: math.MaxUint64, Lo: math.MaxUint64}} {
					wide := slices.Clone(l)
					wide[at] = w
					isNotFarmed(t, crew, b, wide, api.ErrWide)
					isFarmed(t, crew, framed(128, 0, 1, codeOf("r9")), wide, want)
				}
			}
		}
	}
}

// someAddresses are some of a sample's family, and what its table tells of them.
func someAddresses(next func() uint64, x sample, count int) (l []api.Word, want []int) {
	for range count {
		s := someAddress(next, x.family, x.h)
		l, want = append(l, wordOf(s)), append(want, x.h.of(s))
	}
	return l, want
}

// TestT10Farm: however many goroutines there are, and addresses, they tell in their order what is told one behind the other.
func TestT10Farm(t *testing.T) {
	next := counter()
	l, all := images(t, 250)
	for k, x := range l {
		size := one(next, 0, 1, 2, 7, 8, 9, 63, 64, 65, 127, 128, 129, 511, 512, 513, 2000)
		if len(all[k]) > 3000 {
			size = min(size, 65)
		}
		words, want := someAddresses(next, x, size)
		for i, w := range words {
			if i < 20 {
				isFound(t, all[k], 0, w, want[i])
			}
		}
		for crew := 1; crew <= api.MaxCrew; crew++ {
			isFarmed(t, crew, all[k], words, want)
		}
	}
}

// TestP2005EachCount: of every count of addresses up to some hundred none is left out.
func TestP2005EachCount(t *testing.T) {
	h := hops{}
	for v := range 1 << 10 {
		h[bitsOf(v, 10)] = 1 + v
	}
	b, e := Make(h.table(32), 3, math.MaxInt)
	if e != api.OK {
		t.Fatal(e)
	}
	var l []api.Word
	var want []int
	for v := range 1200 {
		v = v * 7 % 1024
		l, want = append(l, wordOf(bitsOf(v, 10)+"1")), append(want, 1+v)
	}
	for size := range l {
		isFarmed(t, 1+size%8, b, l[:size], want[:size])
	}
}

// TestP2005Many: many more addresses than goroutines, by each crew, again and again.
func TestP2005Many(t *testing.T) {
	next := counter()
	h := hops{"": 9}
	for range 300 {
		h[someAddress(next, 32, nil)[:8+upTo(next, 17)]] = 1 + upTo(next, 65535)
	}
	b, e := Make(h.table(32), 6, math.MaxInt)
	if e != api.OK {
		t.Fatal(e)
	}
	l, want := someAddresses(next, sample{family: 32, h: h}, 60000)
	for crew := 1; crew <= api.MaxCrew; crew++ {
		isFarmed(t, crew, b, l, want)
	}
	for range 5 {
		isFarmed(t, 8, b, l[:9999], want[:9999])
	}
}

// TestP2005AllHaveEnded: no goroutine is left when Farm has answered, with an error too.
func TestP2005AllHaveEnded(t *testing.T) {
	b := framed(32, 0, 1, codeOf("r9"))
	l := slices.Repeat([]api.Word{{}}, 3000)
	before := runtime.NumGoroutine()
	for range 200 {
		for _, crew := range []int{1, 3, 8} {
			isFarmed(t, crew, b, nil, nil)
			isNotFarmed(t, crew, b, []api.Word{{Lo: 1}}, api.ErrWide)
			if _, e := Farm(crew, b, l); e != api.OK {
				t.Fatal(e)
			}
		}
	}
	// One that has told that it is done may still be on its way out.
	for range 1000 {
		if runtime.NumGoroutine() <= before {
			return
		}
		runtime.Gosched()
	}
	t.Errorf("P2005: %d goroutines, and ahead of it %d", runtime.NumGoroutine(), before)
}

// TestT10AtOnce: several calls at the same time, over the same bytes and addresses.
func TestT10AtOnce(t *testing.T) {
	next := counter()
	x := sample{32, hops{"": 1, "0": 2, "10": 3, strings.Repeat("1", 20): 4, strings.Repeat("10", 10): 5}, 4}
	b, e := Make(x.h.table(32), x.depth, math.MaxInt)
	if e != api.OK {
		t.Fatal(e)
	}
	l, want := someAddresses(next, x, 2000)
	text := x.h.text(32)
	done := make(chan string)
	for k := range 8 {
		go func() {
			wrong := ""
			for range 20 {
				if got, e := Farm(1+k, b, l); e != api.OK || !slices.Equal(got, want) {
					wrong = "Farm"
				}
				if got, err := Compile(text, 32, x.depth, len(b)); err != nil || !slices.Equal(got, b) {
					wrong = "Compile"
				}
				if hop, e := Lookup(b, 0, l[k]); e != api.OK || hop != want[k] || Load(b) != nil {
					wrong = "Lookup"
				}
			}
			done <- wrong
		}()
	}
	for range 8 {
		if wrong := <-done; wrong != "" {
			t.Errorf("T10: %s tells another answer", wrong)
		}
	}
}
