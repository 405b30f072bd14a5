package delta

import (
	"bytes"
	"slices"
	"testing"

	"turnpike/api"
)

// isParsed asks for just these patches, or for an error and nothing beside it.
func isParsed(t *testing.T, a, b []byte, want []api.Patch, e api.Errno) {
	t.Helper()
	if l, f := Parse(a, b); !alike(l, want) || f != e {
		t.Fatalf("P2104: Parse(%s, %s): %s, %v; want %s, %v", short(a), short(b), shown(l), f, shown(want), e)
	}
}

// isParsedBy asks the same by the chapter's words, and tells which error it was.
func isParsedBy(t *testing.T, a, b []byte) api.Errno {
	t.Helper()
	l, e := parseBy(a, b)
	isParsed(t, a, b, l, e)
	return e
}

var (
	abc  = []byte("abc")
	some = patches(patch(1, 1, "xy"), patch(0, 0, ""), patch(0, 1, "z"))
)

func TestP2104Right(t *testing.T) {
	isParsed(t, nil, sealed([]byte("TPD1"), numbers(0, 0, 0)), nil, api.OK)
	isParsed(t, abc, sealed(headOf(abc, 0)), nil, api.OK)
	isParsed(t, abc, sealed(headOf(abc, 1), numbers(1, 1, 2), []byte("xy")), patches(patch(1, 1, "xy")), api.OK)
	isParsed(t, abc, sealed(headOf(abc, 3), numbers(1, 1, 2), []byte("xy"), numbers(0, 0, 0), numbers(0, 1, 1), []byte("z")), some, api.OK)
	isParsed(t, abc, sealed(headOf(abc, 2), numbers(3, 0, 0), numbers(0, 0, 1), []byte("z")), patches(patch(3, 0, ""), patch(0, 0, "z")), api.OK)
}

// TestP2104Short: fewer than twenty bytes, whatever they are; also where they begin with other ones, or end in their own sum.
func TestP2104Short(t *testing.T) {
	next := counter()
	whole := unfitBytes(abc, some)
	for n := range 20 {
		for _, b := range [][]byte{whole[:n], make([]byte, n), []byte("TPK1TPK1TPK1TPK1TPK1")[:n], someBytes(next, n, 256)} {
			isParsed(t, abc, b, nil, api.ErrCut)
		}
		if n >= 4 {
			isParsed(t, abc, sealed(whole[:n-4]), nil, api.ErrCut)
		}
	}
	isParsed(t, abc, nil, nil, api.ErrCut)
	isParsed(t, nil, nil, nil, api.ErrCut)
	isParsed(t, nil, make([]byte, 20), nil, api.ErrMagic)
}

// TestP2104Magic: each other first four, with a sum that is right.
func TestP2104Magic(t *testing.T) {
	rest := headOf(abc, 0)[4:]
	for _, first := range []string{"TPK1", "TPD0", "TPD2", "tpd1", "PTD1", "1DPT", "xPD1", "TxD1", "TPx1", "TPDx", "\x00\x00\x00\x00", "\xff\xff\xff\xff"} {
		isParsed(t, abc, sealed([]byte(first), rest), nil, api.ErrMagic)
	}
	isParsed(t, abc, sealed([]byte(" "), headOf(abc, 0)), nil, api.ErrMagic)
	isParsed(t, abc, sealed(headOf(abc, 0)[1:], []byte("x")), nil, api.ErrMagic)
}

// TestP2104Sum: each bit turned, each byte taken away, bytes ahead and behind.
func TestP2104Sum(t *testing.T) {
	for _, l := range [][]api.Patch{nil, patches(patch(0, 0, "")), some} {
		whole := unfitBytes(abc, l)
		for i := range whole {
			for bit := range 8 {
				b := bytes.Clone(whole)
				b[i] ^= 1 << bit
				want := api.ErrSum
				if i < 4 {
					want = api.ErrMagic
				}
				isParsed(t, abc, b, nil, want)
			}
			if e := isParsedBy(t, abc, slices.Delete(bytes.Clone(whole), i, i+1)); e == api.OK {
				t.Errorf("P2104: without byte %d: %v", i, e)
			}
			if len(whole[:i]) >= 20 {
				isParsed(t, abc, whole[:i], nil, api.ErrSum)
			}
		}
		isParsed(t, abc, append(bytes.Clone(whole), 0), nil, api.ErrSum)
		isParsed(t, abc, append(bytes.Clone(whole), "xyz"...), nil, api.ErrSum)
	}
}

// TestP2104SumMadeRight: each bit ahead of the last sum turned, and the sum made right again.
func TestP2104SumMadeRight(t *testing.T) {
	seen := map[api.Errno]int{}
	for _, l := range [][]api.Patch{nil, patches(patch(0, 0, "")), patches(patch(2, 1, "x")), some} {
		whole := unfitBytes(abc, l)
		for i := range len(whole) - 4 {
			for bit := range 8 {
				b := bytes.Clone(whole[:len(whole)-4])
				b[i] ^= 1 << bit
				e := isParsedBy(t, abc, sealed(b))
				seen[e]++
				switch {
				case i < 4 && e != api.ErrMagic, 4 <= i && i < 12 && e != api.ErrPatch, 12 <= i && i < 16 && e != api.ErrCut:
					t.Fatalf("P2104: byte %d turned is told as %v", i, e)
				}
			}
		}
	}
	for _, e := range []api.Errno{api.OK, api.ErrMagic, api.ErrPatch, api.ErrCut} {
		if seen[e] < 30 {
			t.Errorf("the samples: %v", seen)
		}
	}
}

// TestP2104OtherRow: made for another row, of the same length or of another one; the length alone, the sum alone.
func TestP2104OtherRow(t *testing.T) {
	for _, l := range [][]api.Patch{nil, patches(patch(0, 0, "x")), some} {
		b := unfitBytes(abc, l)
		for _, other := range []string{"", "a", "ab", "abd", "abC", "cba", "\x00\x00\x00", "abcd", "xabc", "abcabc"} {
			isParsed(t, []byte(other), b, nil, api.ErrPatch)
		}
		isParsed(t, nil, b, nil, api.ErrPatch)
		isParsed(t, abc, b, l, api.OK)
		rest := b[12 : len(b)-4]
		sum := int(sumOf(abc))
		for _, length := range []int{0, 2, 4, 3 + 256, 3 + 1<<16, 3 + 1<<24, 1<<32 - 1} {
			isParsed(t, abc, sealed([]byte("TPD1"), numbers(length, sum), rest), nil, api.ErrPatch)
		}
		for _, sum := range []int{0, sum + 1, sum - 1, ^sum, sum ^ 1<<31, sum >> 8} {
			isParsed(t, abc, sealed([]byte("TPD1"), numbers(3, sum), rest), nil, api.ErrPatch)
		}
	}
	// Rows of noughts: a sum that began at 0 would be the same of all of them.
	for size := range 5 {
		for other := range 5 {
			want := api.ErrPatch
			if size == other {
				want = api.OK
			}
			isParsed(t, make([]byte, other), unfitBytes(make([]byte, size), nil), nil, want)
		}
	}
}

// TestP2104Counts: more patches said than stand there, and fewer.
func TestP2104Counts(t *testing.T) {
	for _, l := range [][]api.Patch{nil, patches(patch(0, 0, "")), patches(patch(1, 1, "xyz")), some} {
		body := unfitBytes(abc, l)
		body = body[16 : len(body)-4]
		for _, count := range []int{0, 1, 2, 3, 4, 5, 256, 1 << 24, 1<<31 - 1, 1 << 31, 1<<32 - 1} {
			want, list := api.ErrCut, []api.Patch(nil)
			if count == len(l) {
				want, list = api.OK, l
			}
			isParsed(t, abc, sealed(headOf(abc, count), body), list, want)
		}
	}
}

// TestP2104Ends: patches that end ahead of the last sum, in it, or behind it.
func TestP2104Ends(t *testing.T) {
	whole := unfitBytes(abc, some)
	body := whole[:len(whole)-4]
	for n := 16; n < len(body); n++ {
		isParsed(t, abc, sealed(body[:n]), nil, api.ErrCut)
	}
	for n := 1; n < 30; n++ {
		// Noughts are also patches that do nothing, but there are no more than are said.
		isParsed(t, abc, sealed(body, make([]byte, n)), nil, api.ErrCut)
	}
	for n := range 13 {
		want, list := api.ErrCut, []api.Patch(nil)
		if n == 12 {
			want, list = api.OK, patches(patch(0, 0, ""))
		}
		isParsed(t, abc, sealed(headOf(abc, 1), make([]byte, n)), list, want)
	}
	for _, size := range []int{0, 1, 2, 3, 5, 6, 7, 8, 9, 20, 255, 260, 1 << 24, 1<<31 - 1, 1 << 31, 1<<31 + 4, 1<<32 - 4, 1<<32 - 1} {
		isParsed(t, abc, sealed(headOf(abc, 1), numbers(1, 1, size), []byte("wxyz")), nil, api.ErrCut)
		isParsed(t, abc, sealed(headOf(abc, 2), numbers(0, 0, 0), numbers(1, 1, size), []byte("wxyz")), nil, api.ErrCut)
	}
	isParsed(t, abc, sealed(headOf(abc, 1), numbers(1, 1, 4), []byte("wxyz")), patches(patch(1, 1, "wxyz")), api.OK)
	// A Data, and a number, that would take up the last sum.
	isParsed(t, abc, sealed(headOf(abc, 1), numbers(1, 1, 4)), nil, api.ErrCut)
	isParsed(t, abc, sealed(headOf(abc, 1), numbers(1, 1)), nil, api.ErrCut)
}

// TestP2104WrongPatches: all is as it should be, but that they do not fit.
func TestP2104WrongPatches(t *testing.T) {
	for _, l := range [][]api.Patch{
		patches(patch(4, 0, "")), patches(patch(0, 4, "")), patches(patch(2, 2, "")), patches(patch(3, 0, ""), patch(0, 1, "")), patches(patch(1, 1, "xyz"), patch(1, 1, "")), patches(patch(0, 0, ""), patch(0, 0, "x"), patch(9, 0, "")),
		// Read as numbers with a sign these would be below 0; their sums wrap round to 0 and to 3 in four bytes.
		patches(patch(1<<32-1, 0, "")), patches(patch(0, 1<<32-1, "")), patches(patch(1<<31, 0, "")), patches(patch(0, 1<<31, "")), patches(patch(1<<31, 1<<31, "")), patches(patch(1<<32-1, 4, "")), patches(patch(1<<32-1, 0, ""), patch(1, 3, "")), patches(patch(1<<32-1, 1<<32-1, ""), patch(2, 3, "")),
	} {
		isParsed(t, abc, unfitBytes(abc, l), nil, api.ErrPatch)
	}
	isParsed(t, nil, unfitBytes(nil, patches(patch(1, 0, ""))), nil, api.ErrPatch)
	isParsed(t, nil, unfitBytes(nil, patches(patch(0, 1, "x"))), nil, api.ErrPatch)
}

// TestP2104FirstError: of several things that are wrong the first in their order.
func TestP2104FirstError(t *testing.T) {
	whole := unfitBytes(abc, some)
	no := []byte("x")
	unsealed := func(b []byte) []byte {
		b = bytes.Clone(b)
		b[len(b)-1] ^= 1
		return b
	}
	cut := sealed(whole[:30])
	unfit := unfitBytes(abc, patches(patch(2, 2, "x")))
	both := unfitBytes(abc, patches(patch(2, 2, "x")))
	both = sealed(both[:len(both)-4], no)
	for _, x := range []struct {
		name string
		a, b []byte
		want api.Errno
	}{
		{"short, no magic, no sum, another row", no, whole[1:20], api.ErrCut},
		{"no magic, no sum", abc, append([]byte("x"), whole...), api.ErrMagic},
		{"no magic, no sum, another row", no, append([]byte("x"), whole...), api.ErrMagic},
		{"no magic, another row", no, sealed([]byte("TPK1"), whole[4:]), api.ErrMagic},
		{"no magic, cut", abc, sealed([]byte("TPK1"), whole[4:20]), api.ErrMagic},
		{"no sum, another row", no, unsealed(whole), api.ErrSum},
		{"no sum, cut", abc, unsealed(cut), api.ErrSum},
		{"no sum, unfit", abc, unsealed(unfit), api.ErrSum},
		{"no sum, all else", no, unsealed(both), api.ErrSum},
		{"another row, cut", no, cut, api.ErrPatch},
		{"another row, too many said", no, sealed(headOf(abc, 9)), api.ErrPatch},
		{"another row, unfit", no, unfit, api.ErrPatch},
		{"unfit, bytes behind", abc, both, api.ErrCut},
		{"unfit, too many said", abc, sealed(headOf(abc, 2), numbers(2, 2, 0)), api.ErrCut},
		{"unfit, too few said", abc, sealed(headOf(abc, 1), numbers(4, 0, 0), numbers(0, 0, 0)), api.ErrCut},
		{"the first unfit, the second cut", abc, sealed(headOf(abc, 2), numbers(1<<32-1, 0, 0), numbers(0, 0, 1)), api.ErrCut},
		{"unfit alone", abc, unfit, api.ErrPatch},
	} {
		if l, e := Parse(x.a, x.b); e != x.want || len(l) != 0 {
			t.Errorf("P2104: %s: %s, %v; want %v", x.name, shown(l), e, x.want)
		}
		if _, e := parseBy(x.a, x.b); e != x.want {
			t.Errorf("the sample %s is another one: %v", x.name, e)
		}
	}
}

// TestP2104AsTheChapterSays: bytes of patches, spoilt in all manners; most of them with a sum that is right.
func TestP2104AsTheChapterSays(t *testing.T) {
	next := counter()
	seen := map[api.Errno]int{}
	for range 40000 {
		a := someRow(next, 30)
		b := unfitBytes(a, someFitting(next, len(a)))
		b = b[:len(b)-4]
		for range upTo(next, 3) {
			i := upTo(next, len(b))
			switch upTo(next, 5) {
			case 0:
				b[i] = byte(next() >> 11)
			case 1:
				b = b[:max(16, i)]
			case 2:
				b = slices.Insert(b, max(16, i), someRow(next, 14)...)
			case 3:
				b[min(len(b)-1, i|3)] = byte(upTo(next, 6))
			case 4:
				a = someRow(next, 30)
			}
		}
		if upTo(next, 8) > 0 {
			b = sealed(b)
		}
		seen[isParsedBy(t, a, b)]++
	}
	for _, e := range []api.Errno{api.OK, api.ErrMagic, api.ErrSum, api.ErrPatch, api.ErrCut} {
		if seen[e] < 500 {
			t.Errorf("only %d of %v: %v", seen[e], e, seen)
		}
	}
}

// TestP2104Many: as many patches as go into some megabytes, and one fewer than are said.
func TestP2104Many(t *testing.T) {
	const count = 1 << 18
	a := make([]byte, count)
	body := bytes.Repeat(slices.Concat(numbers(1, 0, 1), []byte("x")), count)
	isParsed(t, a, sealed(headOf(a, count), body), slices.Repeat(patches(patch(1, 0, "x")), count), api.OK)
	isParsed(t, a, sealed(headOf(a, count+1), body), nil, api.ErrCut)
	isParsed(t, a, sealed(headOf(a, count-1), body), nil, api.ErrCut)
	isParsed(t, a, sealed(headOf(a, 1<<32-1), body), nil, api.ErrCut)
	isParsed(t, a[1:], sealed(headOf(a[1:], count), body), nil, api.ErrPatch)
}
