package image

import (
	"slices"
	"testing"

	"turnpike/api"
)

// packsAs asks that Pack tells just what is wanted.
func packsAs(t *testing.T, h api.Header, code, b []byte, want api.Errno) {
	t.Helper()
	got, e := Pack(h, code)
	if !slices.Equal(got, b) || e != want {
		t.Fatalf("P1701: Pack(%v, %d bytes): %d bytes (%s), %v; want %d bytes (%s), %v", h, len(code), len(got), short(got), e, len(b), short(b), want)
	}
}

// packsByTheWords asks the same by the chapter's words.
func packsByTheWords(t *testing.T, h api.Header, code []byte) {
	t.Helper()
	b, e := packBy(h, code)
	packsAs(t, h, code, b, e)
}

// TestP1701Example: the chapter's, both halves.
func TestP1701Example(t *testing.T) {
	code := bytesOf("04 00 00 09")
	got := packed(t, api.Header{W: 32, Depth: 0, Steps: 1, Words: 1}, code)
	if len(got) != 20 || !slices.Equal(got[:12], bytesOf("54 50 4B 31 20 00 00 01 00 00 00 01")) || !slices.Equal(got[16:], code) {
		t.Fatalf("P1701: %s", short(got))
	}
	packsAs(t, api.Header{W: 32, Depth: 0, Steps: 0, Words: 1}, code, nil, api.ErrSteps)
}

// TestP1701ByHand: every byte, those of the sum written out too.
func TestP1701ByHand(t *testing.T) {
	for _, x := range []struct {
		h          api.Header
		code, want string
	}{
		{api.Header{W: 32, Depth: 0, Steps: 1, Words: 1}, "04000009", "54504b31 20 00 0001 00000001 eb1863bd 04000009"},
		{api.Header{W: 128, Depth: 128, Steps: 384, Words: 0}, "", "54504b31 80 80 0180 00000000 b50b8380"},
		{api.Header{W: 32, Depth: 32, Steps: 96, Words: 2}, "01020304 fffefdfc", "54504b31 20 20 0060 00000002 3da4b03e 01020304 fffefdfc"},
		{api.Header{W: 128, Depth: 1, Steps: 3, Words: 5}, "01000001 02000001 c0000000 04000005 04000000", "54504b31 80 01 0003 00000005 49143383 01000001 02000001 c0000000 04000005 04000000"},
	} {
		packsAs(t, x.h, bytesOf(x.code), bytesOf(x.want), api.OK)
	}
}

func TestP1701AsTheChapterSays(t *testing.T) {
	for _, x := range samples() {
		packsAs(t, x.h, x.code, framed(x.h, x.code), api.OK)
	}
}

// TestP1701Families: none but 32 and 128, whatever else is wrong.
func TestP1701Families(t *testing.T) {
	code := bytesOf("04000009")
	for _, family := range noFamilies {
		for _, h := range []api.Header{
			{W: family, Steps: 1, Words: 1},
			{W: family, Depth: 1, Steps: 3, Words: 1},
			{W: family, Steps: 0, Words: 1},                  // ErrSteps
			{W: family, Steps: 1, Words: 2},                  // ErrCut
			{W: family, Depth: -1, Steps: 9, Words: 1 << 30}, // both
			{W: family},
		} {
			packsAs(t, h, code, nil, api.ErrFamily)
		}
	}
	packsAs(t, api.Header{W: 31, Steps: 1, Words: mostWords + 1}, make([]byte, 4*mostWords+4), nil, api.ErrFamily)
	for _, family := range families {
		packsAs(t, api.Header{W: family, Steps: 1, Words: 1}, code, framed(api.Header{W: family, Steps: 1, Words: 1}, code), api.OK)
	}
}

// TestP1701Depths: each from 0 to the family's bits, with the steps around its own.
func TestP1701Depths(t *testing.T) {
	code := bytesOf("04000009")
	for _, family := range families {
		for depth := -3; depth <= family+3; depth++ {
			for steps := 3*depth - 4; steps <= 3*depth+4; steps++ {
				packsByTheWords(t, api.Header{W: family, Depth: depth, Steps: steps, Words: 1}, code)
			}
			for _, steps := range []int{-1, 0, 1, 2, 3, depth, 2 * depth, 3*depth + 1<<16, 3*depth - 1<<16, 3*depth + 1<<32, 3*depth + 256} {
				packsByTheWords(t, api.Header{W: family, Depth: depth, Steps: steps, Words: 1}, code)
			}
		}
	}
}

func TestP1701DepthEdges(t *testing.T) {
	code := bytesOf("04000009")
	for _, x := range []struct {
		family, depth, steps int
		want                 api.Errno
	}{
		{32, 0, 1, api.OK}, {32, 0, 0, api.ErrSteps}, {32, 0, 2, api.ErrSteps}, {32, 0, 3, api.ErrSteps}, {32, 0, -1, api.ErrSteps},
		{32, 1, 3, api.OK}, {32, 1, 1, api.ErrSteps}, {32, 1, 2, api.ErrSteps}, {32, 1, 4, api.ErrSteps},
		{32, 32, 96, api.OK}, {32, 32, 95, api.ErrSteps}, {32, 32, 97, api.ErrSteps},
		{32, 33, 99, api.ErrSteps}, {32, 128, 384, api.ErrSteps}, {32, -1, -3, api.ErrSteps}, {32, -1, 1, api.ErrSteps},
		{128, 128, 384, api.OK}, {128, 128, 385, api.ErrSteps}, {128, 128, 383, api.ErrSteps}, {128, 129, 387, api.ErrSteps}, {128, 33, 99, api.OK},
	} {
		h := api.Header{W: x.family, Depth: x.depth, Steps: x.steps, Words: 1}
		if b, e := Pack(h, code); e != x.want || (len(b) == 20) != (e == api.OK) {
			t.Errorf("P1701: Pack(%v): %d bytes, %v; want %v", h, len(b), e, x.want)
		}
	}
	for _, family := range families {
		for _, depth := range noDepths {
			// Three times some of these wraps round: the steps are then those of a depth that may be, or 0, or below 0.
			for _, steps := range []int{3 * depth, 1, 0, 3, 3 * (depth & 255), depth} {
				packsAs(t, api.Header{W: family, Depth: depth, Steps: steps, Words: 1}, code, nil, api.ErrSteps)
			}
		}
	}
}

// TestP1701StepsAheadOfCut: Depth or Steps that are not so, and code that is not, or too long.
func TestP1701StepsAheadOfCut(t *testing.T) {
	for _, family := range families {
		for _, h := range []api.Header{{W: family, Steps: 0, Words: 2}, {W: family, Depth: -1, Steps: -3, Words: 0}, {W: family, Depth: family + 1, Steps: 3*family + 3, Words: -1}, {W: family, Depth: 1, Steps: 1, Words: 1 << 40}} {
			packsAs(t, h, bytesOf("04000009"), nil, api.ErrSteps)
		}
		packsAs(t, api.Header{W: family, Steps: 2, Words: mostWords + 1}, make([]byte, 4*mostWords+4), nil, api.ErrSteps)
	}
}

// TestP1701Cut: code of just Words words, and of more and fewer bytes.
func TestP1701Cut(t *testing.T) {
	next := counter()
	for _, family := range families {
		for words := -2; words <= 5; words++ {
			for size := range 24 {
				code := someBytes(next, size)
				h := api.Header{W: family, Depth: 2, Steps: 6, Words: words}
				if size == 4*words {
					packsAs(t, h, code, framed(h, code), api.OK)
				} else {
					packsAs(t, h, code, nil, api.ErrCut)
				}
			}
		}
		for _, words := range noWords {
			for _, size := range []int{0, 1, 3, 4, 8, 16, 4096} {
				packsAs(t, api.Header{W: family, Steps: 1, Words: words}, make([]byte, size), nil, api.ErrCut)
			}
		}
		packsAs(t, api.Header{W: family, Steps: 1, Words: 1}, nil, nil, api.ErrCut)
		packsAs(t, api.Header{W: family, Steps: 1, Words: 0}, nil, framed(api.Header{W: family, Steps: 1}, nil), api.OK)
	}
}

// TestP1701Size: an image of just MaxImage bytes, of one word more, and of code that is both too long and not as the header says.
func TestP1701Size(t *testing.T) {
	long := someBytes(counter(), 4*mostWords+8)
	for _, family := range families {
		h := api.Header{W: family, Depth: family, Steps: 3 * family}
		for _, words := range []int{mostWords - 1, mostWords, mostWords + 1, mostWords + 2} {
			for _, size := range []int{4*words - 4, 4*words - 1, 4 * words} {
				h.Words = words
				packsByTheWords(t, h, long[:size])
			}
		}
		h.Words = mostWords
		if b := packed(t, h, long[:4*mostWords]); len(b) != api.MaxImage {
			t.Fatalf("P1701: the longest image has %d bytes", len(b))
		}
		packsAs(t, h, long[:4*mostWords+4], nil, api.ErrCut)
		h.Words++
		packsAs(t, h, long[:4*mostWords+4], nil, api.ErrSize)
		packsAs(t, h, long[:4*mostWords+1], nil, api.ErrCut)
	}
	h := api.Header{W: 32, Steps: 1, Words: 1 << 23}
	packsAs(t, h, make([]byte, 1<<25), nil, api.ErrSize)
	packsAs(t, h, make([]byte, 1<<25-1), nil, api.ErrCut)
}
