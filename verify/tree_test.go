package verify

import (
	"slices"
	"testing"

	"turnpike/api"
)

// hasTree asks that Tree tells just these nodes.
func hasTree(t *testing.T, family int, b []byte, want []api.Node) {
	t.Helper()
	if l := treeOf(t, family, b); !like(l, want) {
		t.Fatalf("P1803: Tree(%d, %s): %s; want %s", family, short(b), textOf(l), textOf(want))
	}
}

func TestP1803ByHand(t *testing.T) {
	for _, x := range []struct {
		text, nodes string
	}{
		{"r0", "0 0=0"}, {"r9", "0 0=9"}, {"r65535", "0 0=65535"},
		{"x1 i1:80000000 r0", "1 0=0"}, {"x1 i1:c0000000 r5 r0", "1 0=5 1=0"}, {"x2 i2:90000000 r1 r2", "2 0=1 3=2"}, {"x4 i4:80010000 r1 r2", "4 0=1 15=2"},
		// Maps of several words.
		{"x5 i5:80000001 r1 r65535", "5 0=1 31=65535"}, {"x6 i6:80000001:80000001 r1 r2 r3 r4", "6 0=1 31=2 32=3 63=4"}, {"x6 i6:80000000:00000000 r1", "6 0=1"}, {"x7 i7:80000000:00000000:00000000:00000001 r1 r2", "7 0=1 127=2"}, {"x7 i7:80000000:40000000:20000000:10000000 r1 r2 r3 r4", "7 0=1 33=2 66=3 99=4"},
		// Jumps: the numbers of blocks, in the order in which these stand.
		{"x1 i1:80000000 j1 x1 i1:80000000 r0", "1 0>1; 1 0=0"}, {"x1 i1:c0000000 j2 r9 x2 i2:a0000000 r1 r2", "1 0>1 1=9; 2 0=1 2=2"}, {"x1 i1:c0000000 r9 j1 x2 i2:a0000000 r1 r2", "1 0=9 1>1; 2 0=1 2=2"},
		{"x1 i1:c0000000 j2 j5 x1 i1:80000000 r5 x1 i1:80000000 r6", "1 0>1 1>2; 1 0=5; 1 0=6"}, {"x1 i1:c0000000 j6 j1 x1 i1:80000000 r5 x1 i1:80000000 r6", "1 0>2 1>1; 1 0=5; 1 0=6"}, {"x2 i2:e0000000 j3 r3 j1 x1 i1:80000000 r1", "2 0>1 1=3 2>1; 1 0=1"}, {"x1 i1:c0000000 j2 j6 x1 i1:c0000000 r7 j1 x1 i1:80000000 r3", "1 0>1 1>2; 1 0=7 1>2; 1 0=3"},
		// A map that looks like a block.
		{"x1 i1:80000000 j1 x6 i6:80000000:01000001 r0 r1 r2", "1 0>1; 6 0=0 39=1 63=2"},
	} {
		for _, family := range families {
			hasTree(t, family, codeOf(x.text), nodesOf(x.nodes))
		}
	}
}

// TestP1803Alone: each answer there is.
func TestP1803Alone(t *testing.T) {
	for hop := range 65536 {
		hasTree(t, families[hop%2], bytesOf([]uint32{4<<24 | uint32(hop)}), []api.Node{{Runs: []api.Run{{N: hop}}}})
	}
}

// TestP1803EachPlace: a map of each N up to 11, by itself with place 0 and each other one set.
func TestP1803EachPlace(t *testing.T) {
	for bits := 1; bits <= 11; bits++ {
		for place := 1; place < 1<<bits; place++ {
			words := append([]uint32{1<<24 | uint32(bits), 2<<24 | uint32(bits)}, mapOf(bits, 0, place)...)
			b := bytesOf(append(words, wordsOf("r1 r2")...))
			hasTree(t, 32, b, []api.Node{{Bits: bits, Runs: []api.Run{{N: 1}, {From: api.Word{Lo: uint64(place)}, N: 2}}}})
		}
	}
}

// TestP1803AsLaid: a list is told as it was laid, in whatever order that was.
func TestP1803AsLaid(t *testing.T) {
	for _, family := range families {
		for _, l := range samples(family) {
			hasTree(t, family, laid(l), l)
		}
	}
}

// TestP1803Refused: Code's errors, with nothing beside them.
func TestP1803Refused(t *testing.T) {
	isNone := func(family int, b []byte, want api.Errno) {
		t.Helper()
		if l, e := Tree(family, b); len(l) != 0 || e != want {
			t.Fatalf("P1803: Tree(%d, %s): %s, %v; want %v", family, short(b), textOf(l), e, want)
		}
	}
	for _, x := range refused {
		for _, family := range families {
			isNone(family, codeOf(x.text), x.e)
		}
		for _, family := range noFamilies {
			isNone(family, codeOf(x.text), api.ErrFamily)
		}
	}
	for _, family := range families {
		isNone(family, nil, api.ErrCut)
		isNone(family, []byte{4, 0, 0}, api.ErrCut)
		isNone(family, []byte{4, 0, 0, 9, 4}, api.ErrCut)
		isNone(family, laid(chain(append(steps(family), 1)...)), api.ErrBits)
	}
	for _, family := range noFamilies {
		isNone(family, codeOf("r9"), api.ErrFamily)
		isNone(family, codeOf("x1 i1:80000000 r0"), api.ErrFamily)
	}
}

// TestP1803SpoiltAsTheChapterSays: nodes or an error, of code without a pattern.
func TestP1803SpoiltAsTheChapterSays(t *testing.T) {
	next := counter()
	trees := 0
	for range 10000 {
		b := spoil(next, laid(one(next, someList(next, 128), someChain(next))))
		for _, family := range []int{32, 128, 64} {
			want, e := treeBy(family, b)
			if e != api.OK {
				want = nil
			}
			l, got := Tree(family, b)
			if got != e || !like(l, want) {
				t.Fatalf("P1803: Tree(%d, %s): %s, %v; want %s, %v", family, short(b), textOf(l), got, textOf(want), e)
			}
			if e == api.OK {
				trees++
			}
		}
	}
	if trees < 500 {
		t.Errorf("only %d trees", trees)
	}
}

// TestP1803AllSet: a block in which every place is set.
func TestP1803AllSet(t *testing.T) {
	for bits := 1; bits <= 16; bits++ {
		n := api.Node{Bits: bits}
		for k := range 1 << bits {
			n.Runs = append(n.Runs, api.Run{From: api.Word{Lo: uint64(k)}, N: k})
		}
		hasTree(t, 32, laid([]api.Node{n}), []api.Node{n})
		hasTree(t, 32, laid(slices.Concat(nodesOf("1 0>1 1=2"), []api.Node{n})), slices.Concat(nodesOf("1 0>1 1=2"), []api.Node{n}))
	}
}
