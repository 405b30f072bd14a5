package fib

import (
	"math"
	"slices"
	"strconv"
	"strings"
	"testing"

	"turnpike/api"
	"turnpike/image"
	"turnpike/verify"
	"turnpike/vm"
)

// isLoaded asks that Load tells nil.
func isLoaded(t *testing.T, b []byte) {
	t.Helper()
	if err := Load(b); err != nil {
		t.Fatalf("P2003: %s: %v", short(b), err)
	}
}

// isNotLoaded asks for a *Refused of just this number.
func isNotLoaded(t *testing.T, b []byte, e api.Errno) {
	t.Helper()
	err := Load(b)
	if err == nil {
		t.Fatalf("P2003: %s is loaded; want %v", short(b), e)
	}
	isRefusal(t, err, Refused{Err: e}, e.Error())
}

// isFound asks that Lookup tells a next hop, and no error.
func isFound(t *testing.T, b []byte, at int, w api.Word, want int) {
	t.Helper()
	if hop, e := Lookup(b, at, w); hop != want || e != api.OK {
		t.Fatalf("P2004: Lookup of %x at %d of %s: %d, %v; want %d", w, at, short(b), hop, e, want)
	}
}

// isNotFound asks that Lookup tells an error, and no next hop.
func isNotFound(t *testing.T, b []byte, at int, w api.Word, want api.Errno) {
	t.Helper()
	if hop, e := Lookup(b, at, w); hop != 0 || e != want {
		t.Fatalf("P2004: Lookup of %x at %d of %s: %d, %v; want %v", w, at, short(b), hop, e, want)
	}
}

// spoilt is bytes one of which is another one.
func spoilt(b []byte, at int, to byte) []byte {
	b = slices.Clone(b)
	b[at] = to
	return b
}

// unfit are codes that may not be run, and why; and what the run of the address 0 by 32 bits tells.
var unfit = []struct {
	text   string
	e      api.Errno
	hop    int
	lookup api.Errno
}{
	{"", api.ErrCut, 0, api.ErrBounds}, {"r9 r9", api.ErrUnused, 9, api.OK}, {"j1 r9", api.ErrOp, 9, api.OK}, {"j1", api.ErrOp, 0, api.ErrBounds}, {"j0", api.ErrArg, 0, api.ErrArg}, {"#00000000", api.ErrOp, 0, api.ErrOp}, {"#ffffffff", api.ErrOp, 0, api.ErrOp}, {"#04010000", api.ErrOp, 0, api.ErrOp}, {"x0", api.ErrArg, 0, api.ErrArg}, {"x25", api.ErrArg, 0, api.ErrArg},
	{"x1", api.ErrBounds, 0, api.ErrBounds}, {"x1 r9", api.ErrOp, 9, api.OK}, {"i1:c0000000 r1 r2", api.ErrOp, 0, api.ErrMap}, {"x1 i1:c0000000 r5", api.ErrBounds, 5, api.OK}, {"x1 i1:c0000000 r5 r5", api.ErrMap, 5, api.OK}, {"x2 i1:c0000000 r5 r0", api.ErrMap, 0, api.ErrMap}, {"x1 i1:40000000 r5", api.ErrMap, 0, api.ErrMap},
	{"x1 i1:c0000000 r5 r0 r7", api.ErrOp, 5, api.OK}, {"x1 i1:c0000000 j1 r6", api.ErrJump, 6, api.OK}, {"x1 i1:c0000000 j9 r0", api.ErrJump, 0, api.ErrBounds}, {"x1 i1:c0000000 r5 r0 x1 i1:80000000 r5", api.ErrUnused, 5, api.OK},
	{"x20 x20", api.ErrOp, 0, api.ErrBits},
}

func TestP2003Images(t *testing.T) {
	_, all := images(t, 1500)
	for _, b := range all {
		isLoaded(t, b)
	}
	isLoaded(t, framed(32, 0, 1, codeOf("r9")))
	isLoaded(t, framed(128, 1, 3, codeOf("x1 i1:c0000000 r5 r0")))
	isLoaded(t, framed(32, 2, 6, codeOf("x1 i1:c0000000 r5 j1 x1 i1:80000000 r6")))
}

// TestP2003EachByte: each bit of an image turned, and each byte made another one.
func TestP2003EachByte(t *testing.T) {
	next := counter()
	_, all := images(t, 60)
	seen := map[api.Errno]int{}
	for _, b := range all {
		if len(b) > 500 {
			continue
		}
		for at := range b {
			for _, to := range []byte{b[at] ^ 1, b[at] ^ 2, b[at] ^ 4, b[at] ^ 8, b[at] ^ 16, b[at] ^ 32, b[at] ^ 64, b[at] ^ 128, b[at] ^ byte(1+upTo(next, 255))} {
				other := spoilt(b, at, to)
				_, e := verify.Image(other)
				isNotLoaded(t, other, e)
				seen[e]++
				want := api.ErrMagic
				if at >= 12 {
					want = api.ErrSum
				}
				if (at < 4 || at >= 12) && e != want {
					t.Fatalf("P2003: byte %d of %s made %d: %v", at, short(b), to, e)
				}
			}
		}
	}
	for _, e := range []api.Errno{api.ErrMagic, api.ErrFamily, api.ErrSteps, api.ErrSize, api.ErrCut, api.ErrSum} {
		if seen[e] < 50 {
			t.Errorf("only %d of %v: %v", seen[e], e, seen)
		}
	}
}

// TestP2003CutOrLonger: cut off at each place; with bytes behind it; with one ahead.
func TestP2003CutOrLonger(t *testing.T) {
	next := counter()
	_, all := images(t, 100)
	for _, b := range all {
		for size := 0; size < len(b); size += 1 + len(b)/300 {
			isNotLoaded(t, b[:size], api.ErrCut)
		}
		isNotLoaded(t, b[:len(b)-1], api.ErrCut)
		for _, behind := range [][]byte{{0}, {1, 2, 3}, codeOf("r9"), b, someBytes(next, 1+upTo(next, 30))} {
			isNotLoaded(t, slices.Concat(b, behind), api.ErrCut)
		}
		isNotLoaded(t, slices.Concat([]byte{'T'}, b), api.ErrMagic)
	}
	isNotLoaded(t, nil, api.ErrCut)
	isNotLoaded(t, []byte{}, api.ErrCut)
	isNotLoaded(t, []byte("0123456789abcdef"), api.ErrMagic)
}

// TestP2003Unfit: an image by its head and its sum, of code that may not be run; or of another depth than its header says.
func TestP2003Unfit(t *testing.T) {
	for _, x := range unfit {
		for depth := range 4 {
			isNotLoaded(t, framed(32, depth, max(1, 3*depth), codeOf(x.text)), x.e)
		}
	}
	chain := strings.Repeat("x1 i1:80000000 j1 ", 32) + "x1 i1:80000000 r1"
	isNotLoaded(t, framed(32, 32, 96, codeOf(chain)), api.ErrBits)
	isLoaded(t, framed(128, 33, 99, codeOf(chain)))
	isNotLoaded(t, framed(128, 32, 96, codeOf(chain)), api.ErrSteps)
	isNotLoaded(t, framed(32, 1, 3, codeOf("r9")), api.ErrSteps)
	isNotLoaded(t, framed(32, 0, 1, codeOf("x1 i1:c0000000 r5 r0")), api.ErrSteps)
	isNotLoaded(t, framed(32, 1, 4, codeOf("x1 i1:c0000000 r5 r0")), api.ErrSteps)
	isNotLoaded(t, framed(33, 1, 3, codeOf("x1 i1:c0000000 r5 r0")), api.ErrFamily)
}

// TestP2003AnyBytes: bytes without a pattern, some of which are framed.
func TestP2003AnyBytes(t *testing.T) {
	next := counter()
	for range 5000 {
		b := someBytes(next, upTo(next, 60))
		if upTo(next, 2) == 0 {
			for i := range b[:len(b)/4] {
				copy(b[4*i:], []byte{byte(upTo(next, 5)), 0, 0, byte(upTo(next, 3))})
			}
			depth := upTo(next, 5)
			b = framed(one(next, families...), depth, max(1, 3*depth), b[:len(b)/4*4])
		}
		if _, e := verify.Image(b); e != api.OK {
			isNotLoaded(t, b, e)
		} else {
			isLoaded(t, b)
		}
	}
}

func TestP2004ByHand(t *testing.T) {
	b := framed(32, 1, 3, codeOf("x1 i1:c0000000 r5 r0"))
	isFound(t, b, 0, wordOf(""), 5)
	isFound(t, b, 0, wordOf("01"), 5)
	isFound(t, b, 0, wordOf("1"), 0)
	isFound(t, framed(128, 0, 1, codeOf("r65535")), 0, wordOf(strings.Repeat("1", 128)), 65535)
	for size := range 60 {
		want := api.ErrMagic
		if size < 16 {
			want = api.ErrCut
		}
		isNotFound(t, make([]byte, size), 0, api.Word{}, want)
	}
}

// TestP2004Places: an image at any place, with bytes ahead of it and behind it; all other places have none.
func TestP2004Places(t *testing.T) {
	next := counter()
	l, all := images(t, 300)
	for k, x := range l {
		b := all[k]
		if len(b) > 400 {
			continue
		}
		ahead := upTo(next, 40)
		row := slices.Concat(someBytes(next, ahead), b, someBytes(next, upTo(next, 20)))
		for at := -3; at <= len(row)+3; at++ {
			w := wordOf(someAddress(next, x.family, x.h))
			h, code, e := image.Open(row, at)
			switch {
			case at < 0 || at > len(row):
				isNotFound(t, row, at, w, api.ErrBounds)
			case e != api.OK:
				isNotFound(t, row, at, w, e)
			case at != ahead:
				t.Fatalf("an image stands at %d of %s", at, short(row))
			default:
				isFound(t, row, at, w, vm.Run(h.W, code, w, api.MaxFuel).Hop)
			}
		}
		for _, at := range []int{math.MinInt, math.MinInt + 1, -1 << 32, 1 << 32, 1<<32 + ahead, math.MaxInt - 16, math.MaxInt} {
			isNotFound(t, row, at, api.Word{}, api.ErrBounds)
		}
		isNotFound(t, row[:ahead+len(b)-1], ahead, api.Word{}, api.ErrCut)
		isNotFound(t, spoilt(row, ahead+len(b)-1, ^row[ahead+len(b)-1]), ahead, api.Word{}, api.ErrSum)
	}
	isNotFound(t, nil, 0, api.Word{}, api.ErrCut)
	isNotFound(t, nil, 1, api.Word{}, api.ErrBounds)
	isNotFound(t, nil, -1, api.Word{}, api.ErrBounds)
}

// TestP2004Wide: a word with any bit behind the family's; image.Open's error comes ahead of that.
func TestP2004Wide(t *testing.T) {
	four, six := framed(32, 0, 1, codeOf("r9")), framed(128, 0, 1, codeOf("r9"))
	for i := range 128 {
		w := wordOf(strings.Repeat("0", i) + "1")
		isFound(t, six, 0, w, 9)
		if i < 32 {
			isFound(t, four, 0, w, 9)
			continue
		}
		isNotFound(t, four, 0, w, api.ErrWide)
		isNotFound(t, slices.Concat(six, four), len(six), w, api.ErrWide)
		isNotFound(t, four, 21, w, api.ErrBounds)
		isNotFound(t, four, 4, w, api.ErrMagic)
		isNotFound(t, four, 5, w, api.ErrCut)
		isNotFound(t, spoilt(four, 0, 'X'), 0, w, api.ErrMagic)
		isNotFound(t, spoilt(four, 19, 8), 0, w, api.ErrSum)
		isNotFound(t, framed(33, 0, 1, codeOf("r9")), 0, w, api.ErrFamily)
	}
}

// TestP2004Unfit: code is not asked whether it may be run; its run tells what there is.
func TestP2004Unfit(t *testing.T) {
	for _, x := range unfit {
		b := framed(32, 0, 1, codeOf(x.text))
		if x.lookup == api.OK {
			isFound(t, b, 0, api.Word{}, x.hop)
		} else {
			isNotFound(t, b, 0, api.Word{}, x.lookup)
		}
		isNotFound(t, b, 0, api.Word{Lo: 1}, api.ErrWide)
	}
	// The family is the header's.
	chain := strings.Repeat("x24 ", 5)
	isFound(t, framed(128, 0, 1, codeOf(chain+"r9")), 0, api.Word{Lo: 1}, 9)
	isNotFound(t, framed(32, 0, 1, codeOf(chain+"r9")), 0, api.Word{}, api.ErrBits)
	// A depth and steps that are not the code's are not asked either.
	isFound(t, framed(32, 7, 21, codeOf("r9")), 0, api.Word{}, 9)
	isFound(t, framed(32, 0, 1, codeOf("x1 i1:c0000000 r5 r0")), 0, api.Word{}, 5)
}

// TestP2004Fuel: as many steps as MaxFuel are done, whatever the header says, and no more.
func TestP2004Fuel(t *testing.T) {
	for steps := 1; steps < 500; steps++ {
		b := framed(128, 0, 1, codeOf(strings.Repeat("j1 ", steps-1)+"r9"))
		if steps <= 385 {
			isFound(t, b, 0, api.Word{}, 9)
		} else {
			isNotFound(t, b, 0, api.Word{}, api.ErrFuel)
		}
	}
}

// TestP2004AsTheLayersSay: any code, framed.
func TestP2004AsTheLayersSay(t *testing.T) {
	next := counter()
	seen := map[api.Errno]int{}
	for range 20000 {
		text := ""
		for range upTo(next, 12) {
			n := strconv.Itoa(1 + upTo(next, 3))
			text += one(next, "x"+n, "x"+n+" i"+n+":80000000", "x1 i1:c0000000", "x3 i3:aa000000", "j"+n, "r"+n, "r7", "#00000000", "x24", "i1:c0000000") + " "
		}
		family, depth := one(next, families...), upTo(next, 30)
		code := codeOf(text)
		b := framed(family, depth, max(1, 3*depth), code)
		w := wordOf(someAddress(next, family, nil))
		if upTo(next, 9) == 0 {
			w.Lo |= next()
		}
		r := vm.Run(family, code, w, 385)
		seen[r.Err]++
		if r.Err == api.OK {
			isFound(t, b, 0, w, r.Hop)
		} else {
			isNotFound(t, b, 0, w, r.Err)
		}
	}
	for _, e := range []api.Errno{api.OK, api.ErrWide, api.ErrBounds, api.ErrOp, api.ErrMap, api.ErrBits} {
		if seen[e] < 50 {
			t.Errorf("only %d of %v: %v", seen[e], e, seen)
		}
	}
}

// TestP2008Anywhere: bytes ahead of an image and behind it change no lookup in it; other images among them.
func TestP2008Anywhere(t *testing.T) {
	next := counter()
	l, all := images(t, 300)
	for k, x := range l {
		if len(all[k]) > 3000 {
			continue
		}
		var row []byte
		var places []int
		others := []int{upTo(next, len(all)), k, upTo(next, len(all)), k}
		for _, o := range others {
			if len(all[o]) > 3000 {
				o = k
			}
			row = append(row, someBytes(next, one(next, 0, 1, 4, 15, 16, upTo(next, 99)))...)
			places = append(places, len(row))
			row = append(row, all[o]...)
		}
		row = append(row, someBytes(next, one(next, 0, 1, 16, 40))...)
		for range 15 {
			s := someAddress(next, x.family, x.h)
			want := x.h.of(s)
			isFound(t, all[k], 0, wordOf(s), want)
			isFound(t, row, places[1], wordOf(s), want)
			isFound(t, row, places[3], wordOf(s), want)
			isFound(t, row[:places[1]+len(all[k])], places[1], wordOf(s), want)
			isFound(t, row[places[3]:], 0, wordOf(s), want)
		}
		if x.family == 32 {
			isNotFound(t, row, places[1], api.Word{Lo: 1}, api.ErrWide)
		}
	}
}
