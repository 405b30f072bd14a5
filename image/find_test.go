package image

import (
	"bytes"
	"math"
	"slices"
	"testing"

	"turnpike/api"
)

// one is the chapter's image, other one of the other family.
func one() []byte {
	return framed(api.Header{W: 32, Steps: 1, Words: 1}, bytesOf("04000009"))
}

func other() []byte {
	return framed(api.Header{W: 128, Depth: 2, Steps: 6, Words: 0}, nil)
}

func TestP1703None(t *testing.T) {
	next := counter()
	for _, b := range [][]byte{nil, {}, {1}, []byte("TPK1"), []byte("TPK1TPK"), make([]byte, 1000), bytes.Repeat([]byte("TPK1"), 100), someBytes(next, 1000), one()[:19], one()[1:], other()[:15]} {
		findsAt(t, b, 0, false)
	}
	for i := range 4 {
		b := one()
		b[i]++
		findsAt(t, b, 0, false)
	}
}

// TestP1703One: at the start, at the end, and at each place between.
func TestP1703One(t *testing.T) {
	next := counter()
	for _, b := range [][]byte{one(), other()} {
		findsAt(t, b, 0, true)
		for ahead := range 40 {
			for _, behind := range []int{0, 1, 16, 30} {
				findsAt(t, slices.Concat(someBytes(next, ahead), b, someBytes(next, behind)), ahead, true)
				findsAt(t, slices.Concat(make([]byte, ahead), b, make([]byte, behind)), ahead, true)
			}
		}
	}
}

// TestP1703BehindOthers: behind bytes that begin like an image and are none.
func TestP1703BehindOthers(t *testing.T) {
	spoiltSum, spoiltCode := one(), one()
	spoiltSum[12]++
	spoiltCode[19]++
	long := framed(api.Header{W: 32, Steps: 1, Words: 100}, nil)
	for _, ahead := range [][]byte{
		[]byte("T"), []byte("TP"), []byte("TPK"), []byte("TPK1"), []byte("TPTPK"), []byte("TPK1TPK1TPK"),
		one()[:12], one()[:16], one()[:19], other()[:15], spoiltSum, spoiltCode, long,
		framed(api.Header{W: 33, Steps: 1, Words: 1}, bytesOf("04000009")),
		framed(api.Header{W: 32, Steps: 2, Words: 1}, bytesOf("04000009")),
		framed(api.Header{W: 32, Depth: 33, Steps: 99, Words: 1}, bytesOf("04000009")),
		framed(api.Header{W: 32, Steps: 1, Words: math.MaxUint32}, nil),
		framed(api.Header{W: 32, Steps: 1, Words: mostWords}, nil),
	} {
		findsAt(t, ahead, 0, false)
		for times := 1; times < 4; times++ {
			b := bytes.Repeat(ahead, times)
			findsAt(t, slices.Concat(b, one()), len(b), true)
			findsAt(t, slices.Concat(b, other(), ahead), len(b), true)
		}
	}
}

// TestP1703Two: the first one of two, whichever that is.
func TestP1703Two(t *testing.T) {
	for ahead := range 10 {
		for between := range 10 {
			for _, l := range [][2][]byte{{one(), other()}, {other(), one()}, {one(), one()}} {
				findsAt(t, slices.Concat(make([]byte, ahead), l[0], make([]byte, between), l[1]), ahead, true)
				spoilt := slices.Clone(l[0])
				spoilt[14]++
				findsAt(t, slices.Concat(make([]byte, ahead), spoilt, make([]byte, between), l[1]), ahead+len(spoilt)+between, true)
			}
		}
	}
}

// TestP1703Within: an image within another one's code: the outer one, as long as that is one.
func TestP1703Within(t *testing.T) {
	for ahead := range 20 {
		code := slices.Concat(make([]byte, ahead), one(), make([]byte, 40-ahead))
		b := slices.Concat([]byte("TPK"), framed(headerOf(128, 5, code), code), []byte("TPK1"))
		findsAt(t, b, 3, true)
		b[3+12]++
		findsAt(t, b, 3+16+ahead, true)
		findsAt(t, b[:3+16+ahead+20], 3+16+ahead, true)
		findsAt(t, b[:3+16+ahead+19], 0, false)
	}
}

// TestP1703AsTheChapterSays: rows of images, whole and spoilt, near one another and within one another.
func TestP1703AsTheChapterSays(t *testing.T) {
	next := counter()
	found := 0
	for range 3000 {
		b := someRow(next)
		at, ok := findBy(b)
		findsAt(t, b, at, ok)
		if ok && at > 0 {
			found++
		}
	}
	if found < 300 {
		t.Fatalf("only %d rows had an image behind other bytes", found)
	}
}

// claiming is a head that claims so many words of what stands behind it, and whose sum is not theirs.
func claiming(words int) []byte {
	return framed(api.Header{W: 32, Steps: 1, Words: words}, []byte("none"))[:16]
}

// TestP1703Claims: rows full of heads each of which claims what stands behind it, with an image somewhere among them, or at their end.
func TestP1703Claims(t *testing.T) {
	next := counter()
	for range 300 {
		var b []byte
		for range upTo(next, 200) {
			b = slices.Concat(b, claiming(upTo(next, 400)), make([]byte, upTo(next, 3)))
		}
		image := one()
		if code := someBytes(next, 4*upTo(next, 600)); upTo(next, 2) == 0 {
			image = framed(headerOf(128, 1, code), code)
		}
		b = slices.Insert(b, upTo(next, len(b)+1), image...)
		at, ok := findBy(b)
		findsAt(t, b, at, ok)
	}
}

// TestP1703Hostile: as many such heads as the longest image has room for, each of which claims all behind it: to sum up for each what it claims would take the time of a million millions of bytes.
func TestP1703Hostile(t *testing.T) {
	var b []byte
	for left := api.MaxImage - 16; left >= 0; left -= 16 {
		b = append(b, claiming(left/4)...)
	}
	findsAt(t, b, 0, false)
	findsAt(t, append(b, one()...), len(b), true)
}

// TestP1703Long: an image as long as can be, behind as many bytes as it has, and behind many heads.
func TestP1703Long(t *testing.T) {
	code := someBytes(counter(), 4*mostWords)
	image := framed(headerOf(128, 128, code), code)
	heads := bytes.Repeat(claiming(500), 100)
	findsAt(t, image, 0, true)
	findsAt(t, slices.Concat(code, image), len(code), true)
	findsAt(t, slices.Concat(heads, code[:101], image, heads), len(heads)+101, true)
	findsAt(t, image[:len(image)-1], 0, false)
	image[len(image)-1] ^= 1
	findsAt(t, slices.Concat(heads, image), 0, false)
}
