package emit

import (
	"math"
	"testing"

	"turnpike/api"
)

// isWords asks that Words tells what the chapter says of a node.
func isWords(t *testing.T, n api.Node) api.Errno {
	t.Helper()
	size, want := wordsBy(n)
	if s, e := Words(n); s != size || e != want {
		t.Fatalf("P1601: Words of %s: %d, %v, want %d, %v", textOf([]api.Node{n}), s, e, size, want)
	}
	return want
}

func TestP1601ByHand(t *testing.T) {
	for _, x := range []struct {
		text string
		size int
		e    api.Errno
	}{
		// Of no bits.
		{"0 0=9", 1, 0}, {"0 0=0", 1, 0}, {"0 0>3", 1, 0}, {"0", 0, api.ErrOrder}, {"0 1=9", 0, api.ErrOrder}, {"0 0=9 1=8", 0, api.ErrOrder},
		// The map's words.
		{"1 0=5 1=0", 5, 0}, {"1 0=5", 4, 0}, {"2 0=5", 4, 0}, {"4 0=5", 4, 0}, {"5 0=5", 4, 0}, {"5 0=5 31=6", 5, 0}, {"6 0=5", 5, 0}, {"6 0=5 63=6", 6, 0}, {"7 0=5", 7, 0}, {"8 0=5", 11, 0}, {"16 0=5", 2051, 0}, {"23 0=5", 262147, 0}, {"24 0=5", 524291, 0}, {"24 0=5 16777215=6", 524292, 0},
		// More than an image can hold, and more than there are.
		{"25 0=5", 0, api.ErrSize}, {"26 0=5", 0, api.ErrSize}, {"32 0=5", 0, api.ErrSize}, {"64 0=5", 0, api.ErrSize}, {"127 0=5", 0, api.ErrSize}, {"128 0=5", 0, api.ErrSize}, {"128 0=5 0xffffffffffffffffffffffffffffffff=6", 0, api.ErrSize},
		{"129 0=5", 0, api.ErrArg}, {"-1 0=5", 0, api.ErrArg}, {"-24 0=5", 0, api.ErrArg}, {"256 0=5", 0, api.ErrArg},
		// Runs that are not right.
		{"1", 0, api.ErrOrder}, {"24", 0, api.ErrOrder}, {"1 1=1", 0, api.ErrOrder}, {"1 0=1 0=2", 0, api.ErrOrder}, {"1 0=1 2=2", 0, api.ErrOrder}, {"1 0=1 1=1", 0, api.ErrOrder}, {"1 0>1 1>1", 0, api.ErrOrder}, {"2 0=1 2=2 1=3", 0, api.ErrOrder}, {"2 0=1 1=2 2=2", 0, api.ErrOrder}, {"1 0=1 0x10000000000000001=2", 0, api.ErrOrder}, {"24 0=1 16777216=2", 0, api.ErrOrder},
		// Of several errors the first one.
		{"129", 0, api.ErrArg}, {"129 1=1", 0, api.ErrArg}, {"-1", 0, api.ErrArg}, {"-1 0=1 0=1", 0, api.ErrArg}, {"25", 0, api.ErrOrder}, {"25 1=1", 0, api.ErrOrder}, {"25 0=1 33554432=2", 0, api.ErrOrder}, {"25 0=1 33554431=2", 0, api.ErrSize}, {"128 0=1 1=1", 0, api.ErrOrder}, {"128", 0, api.ErrOrder},
		// What a run says is not asked, but that its neighbour says another thing.
		{"1 0=-1 1=65536", 5, 0}, {"1 0>0 1>-7", 5, 0}, {"1 0>7 1=7", 5, 0}, {"1 0=7 1>7", 5, 0}, {"0 0>0", 1, 0}, {"0 0=65536", 1, 0}, {"25 0=65536", 0, api.ErrSize}, {"25 0>0", 0, api.ErrSize}, {"2 0>1 1=1 2>1 3=1", 7, 0}, {"1 0=-1 1=-1", 0, api.ErrOrder},
	} {
		n := nodesOf(x.text)[0]
		if s, e := Words(n); s != x.size || e != x.e {
			t.Errorf("P1601: %s: %d, %v, want %d, %v", x.text, s, e, x.size, x.e)
		}
		isWords(t, n)
	}
}

// TestP1601Bits: of nodes of all bits, those that may not be among them; at each the last slot with which a run may begin, and the one behind it.
func TestP1601Bits(t *testing.T) {
	for bits := range 129 {
		last, over := api.Run{From: lastSlot(bits), N: 2}, api.Run{From: oneMore(bits), N: 3}
		isWords(t, api.Node{Bits: bits})
		isWords(t, api.Node{Bits: bits, Runs: []api.Run{{N: 1}}})
		isWords(t, api.Node{Bits: bits, Runs: []api.Run{{N: 1}, last}})
		isWords(t, api.Node{Bits: bits, Runs: []api.Run{{N: 1}, over}})
		isWords(t, api.Node{Bits: bits, Runs: []api.Run{{N: 1}, last, over}})
		for _, from := range []api.Word{{Lo: 1}, {Hi: 1}, {Hi: 1 << 63}, {Lo: math.MaxUint64}, {Hi: math.MaxUint64, Lo: math.MaxUint64}} {
			isWords(t, api.Node{Bits: bits, Runs: []api.Run{{From: from, N: 1}}})
			isWords(t, api.Node{Bits: bits, Runs: []api.Run{{N: 1}, {From: from, N: 2}}})
			isWords(t, api.Node{Bits: bits, Runs: []api.Run{{N: 1}, {From: from, N: 1}}})
			isWords(t, api.Node{Bits: bits, Runs: []api.Run{{N: 1}, {From: from, Kid: true, N: 1}}})
		}
	}
	for _, bits := range noBits {
		for _, runs := range [][]api.Run{nil, {{N: 1}}, {{From: api.Word{Lo: 1}, N: 1}}, {{N: 1}, {N: 1}}, {{N: 65536}}} {
			if s, e := Words(api.Node{Bits: bits, Runs: runs}); s != 0 || e != api.ErrArg {
				t.Errorf("P1601: Bits of %d: %d, %v", bits, s, e)
			}
		}
	}
}

// TestP1601Numbers: no number that a run says is refused, nor is one taken for another.
func TestP1601Numbers(t *testing.T) {
	numbers := []int{math.MinInt, math.MinInt + 1, -1 << 32, -65536, -1, 0, 1, 65535, 65536, 1 << 32, 1<<32 + 1, math.MaxInt}
	for _, a := range numbers {
		for _, b := range numbers {
			for kinds := range 4 {
				for _, bits := range []int{1, 24, 25} {
					isWords(t, api.Node{Bits: bits, Runs: []api.Run{{Kid: kinds%2 == 1, N: a}, {From: api.Word{Lo: 1}, Kid: kinds/2 == 1, N: b}}})
				}
			}
		}
	}
}

// TestP1601AsTheChapterSays: nodes without a pattern, right ones and others.
func TestP1601AsTheChapterSays(t *testing.T) {
	next := counter()
	seen := map[api.Errno]int{}
	for i := range 40000 {
		bits := upTo(next, 30)
		if i%4 == 0 {
			bits = upTo(next, 129)
		}
		l := []api.Node{{Bits: bits, Runs: someRuns(next, bits, func() (bool, int) { return upTo(next, 2) == 0, upTo(next, 4) - 1 })}}
		if i%3 > 0 {
			l = []api.Node{joined(l[0])}
		}
		if i%5 == 0 {
			l = spoil(next, l)
		}
		if len(l) > 0 {
			seen[isWords(t, l[0])]++
		}
	}
	for _, e := range []api.Errno{api.OK, api.ErrArg, api.ErrOrder, api.ErrSize} {
		if seen[e] < 200 {
			t.Errorf("only %d nodes of %v", seen[e], e)
		}
	}
}

// TestP1601AllSlots: a run at each slot, and one at each of many.
func TestP1601AllSlots(t *testing.T) {
	for _, bits := range []int{1, 2, 3, 4, 5, 6, 7, 12, 18} {
		n := api.Node{Bits: bits}
		for i := range 1 << bits {
			n.Runs = append(n.Runs, api.Run{From: api.Word{Lo: uint64(i)}, N: i % 2})
		}
		isWords(t, n)
		n.Runs = append(n.Runs, api.Run{From: oneMore(bits), N: 9})
		isWords(t, n)
	}
}
