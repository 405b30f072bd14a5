package verify

import (
	"slices"
	"testing"

	"turnpike/api"
	"turnpike/image"
)

// isImage asks that Image tells just what is wanted.
func isImage(t *testing.T, b []byte, h api.Header, want api.Errno) {
	t.Helper()
	if got, e := Image(b); got != h || e != want {
		t.Fatalf("P1802: Image(%s): %v, %v; want %v, %v", short(b), got, e, h, want)
	}
}

// isNoImage asks for an error, with nothing beside it.
func isNoImage(t *testing.T, b []byte, want api.Errno) {
	t.Helper()
	isImage(t, b, api.Header{}, want)
}

// TestP1802ByHand: images whose sums were told by another program.
func TestP1802ByHand(t *testing.T) {
	for _, x := range []struct {
		text string
		h    api.Header
	}{
		{"#54504b31 #20000001 #00000001 #eb1863bd #04000009", api.Header{W: 32, Steps: 1, Words: 1}},
		{"#54504b31 #20010003 #00000005 #6dcca887 #01000001 #02000001 #c0000000 #04000005 #04000000", api.Header{W: 32, Depth: 1, Steps: 3, Words: 5}},
		{"#54504b31 #80020006 #0000000a #195fd2fa #01000001 #02000001 #c0000000 #03000002 #04000007 #01000001 #02000001 #c0000000 #04000001 #04000002", api.Header{W: 128, Depth: 2, Steps: 6, Words: 10}},
	} {
		isImage(t, codeOf(x.text), x.h, api.OK)
	}
}

// TestP1802Right: by each depth that there is, 0 among them.
func TestP1802Right(t *testing.T) {
	for _, family := range families {
		isImage(t, packed(family, 0, codeOf("r9")), api.Header{W: family, Depth: 0, Steps: 1, Words: 1}, api.OK)
		isImage(t, packed(family, 1, codeOf("x1 i1:c0000000 r5 r0")), api.Header{W: family, Depth: 1, Steps: 3, Words: 5}, api.OK)
		for depth := 1; depth <= family; depth++ {
			b := packed(family, depth, laid(chain(steps(depth)...)))
			isImage(t, b, api.Header{W: family, Depth: depth, Steps: 3 * depth, Words: 5 * depth}, api.OK)
		}
		for _, l := range samples(family) {
			b := laid(l)
			if len(b) < 10000 {
				depth, _, _ := codeBy(family, b)
				isImage(t, packed(family, depth, b), headerOf(family, depth, b), api.OK)
			}
		}
	}
}

// TestP1802Steps: each depth that is not the header's.
func TestP1802Steps(t *testing.T) {
	for _, family := range families {
		for _, text := range []string{"0 0=9", "1 0=5 1=0", "14 0=1", "1 0>1; 1 0=1", "1 0>1 1>2; 1 0>2 1=1; 1 0=3", "1 0>1 1>2; 1 0=5; 1 0=6"} {
			b := laid(nodesOf(text))
			right, _, _ := codeBy(family, b)
			for depth := range family + 1 {
				if depth == right {
					isImage(t, packed(family, depth, b), headerOf(family, depth, b), api.OK)
					continue
				}
				isNoImage(t, packed(family, depth, b), api.ErrSteps)
			}
		}
	}
}

// TestP1802Open: each of image.Open's errors, also where all else is wrong, too.
func TestP1802Open(t *testing.T) {
	for _, c := range [][]byte{codeOf("r9"), codeOf("x1 i1:c0000000 r5 r0"), codeOf("j1"), codeOf("x1"), nil} {
		right := packed(32, len(c)/20, c)
		spoilt := func(at int, to ...byte) []byte {
			b := slices.Clone(right)
			copy(b[at:], to)
			return b
		}
		isNoImage(t, nil, api.ErrCut)
		isNoImage(t, []byte{}, api.ErrCut)
		for size := range len(right) {
			isNoImage(t, right[:size], api.ErrCut)
		}
		for _, behind := range [][]byte{nil, {0}, right} {
			with := func(b []byte) []byte { return slices.Concat(b, behind) }
			isNoImage(t, with(spoilt(0, 'X')), api.ErrMagic)
			isNoImage(t, with(spoilt(3, '2')), api.ErrMagic)
			isNoImage(t, with(spoilt(4, 33)), api.ErrFamily)
			isNoImage(t, with(spoilt(4, 0)), api.ErrFamily)
			isNoImage(t, with(spoilt(5, 33)), api.ErrSteps)
			isNoImage(t, with(spoilt(7, 2)), api.ErrSteps)
			isNoImage(t, with(spoilt(8, 1)), api.ErrSize)
			isNoImage(t, with(spoilt(8, 0, 0x0f, 0xff, 0xfc)), api.ErrCut)
			isNoImage(t, with(spoilt(12, right[12]+1)), api.ErrSum)
			isNoImage(t, with(spoilt(15, right[15]^1)), api.ErrSum)
			isNoImage(t, slices.Concat([]byte{0}, right, behind), api.ErrMagic)
		}
		if len(c) > 0 {
			isNoImage(t, spoilt(len(right)-1, right[len(right)-1]+1), api.ErrSum)
		}
	}
}

// TestP1802Behind: bytes behind the image, however few, come ahead of what is wrong with its code.
func TestP1802Behind(t *testing.T) {
	next := counter()
	for _, c := range [][]byte{codeOf("r9"), codeOf("x1 i1:c0000000 r5 r0"), codeOf("j1"), codeOf("r9 r9"), nil} {
		for _, depth := range []int{0, 1, 2} {
			b := packed(32, depth, c)
			for _, size := range []int{1, 2, 3, 4, 5, 16, 20, 100} {
				isNoImage(t, slices.Concat(b, make([]byte, size)), api.ErrCut)
				isNoImage(t, slices.Concat(b, someBytes(next, size)), api.ErrCut)
			}
			isNoImage(t, slices.Concat(b, b), api.ErrCut)
			isNoImage(t, slices.Concat(b, codeOf("r9")), api.ErrCut)
		}
	}
}

// TestP1802Code: each of Code's errors, by whatever depth the header says; no code at all is one of them.
func TestP1802Code(t *testing.T) {
	for _, family := range families {
		for _, depth := range []int{0, 1, 2, 3, family} {
			for _, x := range refused {
				isNoImage(t, packed(family, depth, codeOf(x.text)), x.e)
			}
			isNoImage(t, packed(family, depth, laid(chain(append(steps(family), 1)...))), api.ErrBits)
		}
	}
}

// TestP1802ItsFamily: code is asked by the header's family.
func TestP1802ItsFamily(t *testing.T) {
	c := laid(chain(steps(33)...))
	isImage(t, packed(128, 33, c), headerOf(128, 33, c), api.OK)
	isNoImage(t, packed(32, 32, c), api.ErrBits)
	isNoImage(t, packed(128, 32, c), api.ErrSteps)
	c = laid(nodesOf("20 0>1; 20 0=1"))
	isImage(t, packed(128, 2, c), headerOf(128, 2, c), api.OK)
	isNoImage(t, packed(32, 2, c), api.ErrBits)
	isNoImage(t, packed(32, 1, c), api.ErrBits)
}

// TestP1802Spoilt: images of code without a pattern, spoilt ahead of being framed, or behind it.
func TestP1802Spoilt(t *testing.T) {
	next := counter()
	seen := map[api.Errno]int{}
	for range 20000 {
		family := one(next, families...)
		c := laid(one(next, someList(next, family), someChain(next), nodesOf("0 0=9")))
		depth, _, _ := codeBy(family, c)
		if upTo(next, 2) == 0 {
			c = spoil(next, c)
			c = c[:len(c)/4*4]
		}
		b := packed(family, one(next, depth, depth, upTo(next, family)), c)
		switch upTo(next, 6) {
		case 0:
			b[upTo(next, min(len(b), 24))] ^= 1 << upTo(next, 8)
		case 1:
			b = append(b, someBytes(next, upTo(next, 5))...)
		case 2:
			b = b[:len(b)-upTo(next, 5)]
		}
		h, e := imageBy(b)
		isImage(t, b, h, e)
		seen[e]++
	}
	for _, e := range []api.Errno{api.OK, api.ErrCut, api.ErrSum, api.ErrMagic, api.ErrFamily, api.ErrSteps, api.ErrSize, api.ErrUnused, api.ErrBounds, api.ErrOp, api.ErrArg, api.ErrMap, api.ErrJump, api.ErrBits} {
		if seen[e] < 20 {
			t.Errorf("only %d rows of %v", seen[e], e)
		}
	}
}

// TestP1802Longest: as long as an image can be, and a word longer.
func TestP1802Longest(t *testing.T) {
	const most = (api.MaxImage - 16) / 4
	words := append([]uint32{1<<24 | 20, 2<<24 | 20}, slices.Repeat([]uint32{0xffffffff}, 1<<15)...)
	for k := range 1 << 20 {
		words = append(words, 4<<24|uint32(k%65536))
	}
	// As many places are set as there are words for entries.
	set := most - 2 - 1<<15
	fits := slices.Clone(words[:most])
	for k := set; k < 1<<20; k++ {
		fits[2+k/32] &^= 1 << (31 - k%32)
	}
	c := bytesOf(fits)
	b := packed(128, 1, c)
	if len(b) != api.MaxImage {
		t.Fatalf("%d bytes", len(b))
	}
	isImage(t, b, api.Header{W: 128, Depth: 1, Steps: 3, Words: most}, api.OK)
	isNoImage(t, append(slices.Clone(b), 0), api.ErrCut)
	if _, e := image.Pack(headerOf(128, 1, append(c, 4, 0, 0, 9)), append(c, 4, 0, 0, 9)); e != api.ErrSize {
		t.Errorf("a word more: %v", e)
	}
	isNoImage(t, packed(128, 1, bytesOf(words[:most])), api.ErrBounds)
}
