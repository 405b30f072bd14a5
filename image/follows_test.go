package image

import (
	"bytes"
	"encoding/binary"
	"slices"
	"testing"

	"turnpike/api"
)

// surroundings are rows that may stand ahead of an image, and behind it.
func surroundings() [][]byte {
	next := counter()
	l := [][]byte{nil, {0}, {255}, make([]byte, 3), []byte("T"), []byte("TPK"), []byte("TPK1"), one(), other(), one()[:19], other()[1:], bytes.Repeat([]byte("TPK1"), 9)}
	for _, size := range []int{5, 16, 255, 256, 257, 700} {
		l = append(l, someBytes(next, size))
	}
	return l
}

// TestP1704ThereAndBack: Open of Pack, at whatever place, whatever stands behind it.
func TestP1704ThereAndBack(t *testing.T) {
	for _, x := range samples() {
		b := packed(t, x.h, x.code)
		for _, ahead := range surroundings() {
			for _, behind := range surroundings() {
				opensAs(t, slices.Concat(ahead, b, behind), len(ahead), x.h, x.code, api.OK)
			}
		}
		findsAt(t, b, 0, true)
	}
}

// TestP1704Longest: the same of an image as long as can be.
func TestP1704Longest(t *testing.T) {
	code := someBytes(counter(), 4*mostWords)
	h := headerOf(128, 128, code)
	b := packed(t, h, code)
	opensAs(t, b, 0, h, code, api.OK)
	opensAs(t, slices.Concat(one(), b, b), 20, h, code, api.OK)
}

// TestP1704BackAndThere: Pack of what Open tells is the image again, byte by byte.
func TestP1704BackAndThere(t *testing.T) {
	for _, x := range samples() {
		b := framed(x.h, x.code)
		h, code, e := Open(slices.Concat(b, one()), 0)
		if e != api.OK {
			t.Fatalf("P1702: %v: %v", x.h, e)
		}
		if again := packed(t, h, code); !slices.Equal(again, b) {
			t.Fatalf("P1704: %s is %s again", short(b), short(again))
		}
	}
}

// isNotTheSame asks that a spoilt image is told as the chapter's words tell it, and not as the one that it was.
func isNotTheSame(t *testing.T, b []byte, at int, x sample) {
	t.Helper()
	h, code, e := Open(b, at)
	if e == api.OK && h == x.h && slices.Equal(code, x.code) {
		t.Fatalf("P1704: %s at %d is told as if nothing were spoilt", short(b), at)
	}
	opensByTheWords(t, b, at)
}

// TestP1704BitTurned: each bit, one at a time; alone it is always an error.
func TestP1704BitTurned(t *testing.T) {
	for _, x := range samples() {
		b := packed(t, x.h, x.code)
		for bit := range 8 * len(b) {
			b[bit/8] ^= 1 << (bit % 8)
			if h, code, e := Open(b, 0); e == api.OK || h != (api.Header{}) || len(code) != 0 {
				t.Fatalf("P1704: bit %d of %v turned: %v, %v", bit, x.h, h, e)
			}
			b[bit/8] ^= 1 << (bit % 8)
		}
		opensAs(t, b, 0, x.h, x.code, api.OK)
	}
}

// TestP1704BitTurnedAmongOthers: where other bytes stand around it, the sum may cover some of these.
func TestP1704BitTurnedAmongOthers(t *testing.T) {
	next := counter()
	for _, x := range samples() {
		if len(x.code) > 300 {
			continue
		}
		ahead, behind := someBytes(next, upTo(next, 20)), someBytes(next, 2000)
		b := slices.Concat(ahead, packed(t, x.h, x.code), behind)
		for bit := 8 * len(ahead); bit < 8*(len(b)-len(behind)); bit++ {
			b[bit/8] ^= 1 << (bit % 8)
			isNotTheSame(t, b, len(ahead), x)
			b[bit/8] ^= 1 << (bit % 8)
		}
		opensAs(t, b, len(ahead), x.h, x.code, api.OK)
	}
}

// TestP1704AnotherLength: a bit of Words turned, with bytes behind it that are chosen so that the sum is right again: another image.
func TestP1704AnotherLength(t *testing.T) {
	next := counter()
	for bit := range 12 {
		code := someBytes(next, 4*upTo(next, 1<<bit))
		x := sample{headerOf(32, 1, code), code}
		b := packed(t, x.h, x.code)
		turned := x.h
		turned.Words |= 1 << bit
		binary.BigEndian.PutUint32(b[8:], uint32(turned.Words))
		b = append(b, make([]byte, 4*(turned.Words-x.h.Words))...)
		covered := withSum(slices.Concat(b[:12], b[16:]), binary.BigEndian.Uint32(b[12:]))
		copy(b[16:], covered[12:])
		isNotTheSame(t, b, 0, x)
		opensAs(t, b, 0, turned, b[16:], api.OK)
		binary.BigEndian.PutUint32(b[8:], uint32(x.h.Words))
		opensAs(t, b, 0, x.h, x.code, api.OK)
	}
}

// TestP1704CutOff: the end cut off at each place, with nothing behind it, and with other bytes.
func TestP1704CutOff(t *testing.T) {
	next := counter()
	for _, x := range samples() {
		b := packed(t, x.h, x.code)
		for size := range len(b) {
			isRefused(t, b[:size], 0, api.ErrCut)
			isRefused(t, slices.Concat(one(), b[:size]), 20, api.ErrCut)
		}
		if len(x.code) > 300 {
			continue
		}
		for size := range len(b) {
			behind := someBytes(next, 50)
			if behind[0] == b[size] {
				behind[0]++
			}
			isNotTheSame(t, slices.Concat(b[:size], behind), 0, x)
		}
	}
}

// TestP2NothingChanged: neither what is handed in nor what stands in its spare room.
func TestP2NothingChanged(t *testing.T) {
	for _, x := range samples() {
		code, codeAsItWas := guarded(x.code)
		wrong := x.h
		wrong.Steps++
		for _, h := range []api.Header{x.h, wrong, {W: 7}, {W: x.h.W, Steps: 1, Words: -1}} {
			b, _ := Pack(h, code)
			overwrite(b)
			if !codeAsItWas() {
				t.Fatalf("P2: Pack(%v): the code is another one", h)
			}
		}
		for _, row := range [][]byte{framed(x.h, x.code), framed(wrong, x.code), slices.Concat(one()[:18], framed(x.h, x.code), one()), slices.Concat(bytes.Repeat(claiming(3), 5), one())} {
			b, asItWas := guarded(row)
			for at := -1; at < len(b)+2; at++ {
				_, code, _ := Open(b, at)
				overwrite(code)
			}
			Find(b)
			if !asItWas() {
				t.Fatalf("P2: Open, Find: %s is another row", short(row))
			}
		}
	}
}

// TestP2Own: an answer stays what it is, whatever happens to what was handed in, or to another answer.
func TestP2Own(t *testing.T) {
	for _, x := range samples() {
		code := slices.Clone(x.code)
		first, second := packed(t, x.h, code), packed(t, x.h, code)
		overwrite(code)
		overwrite(first)
		if !slices.Equal(second, framed(x.h, x.code)) {
			t.Fatalf("P2: Pack(%v): not the caller's own", x.h)
		}
		_, code1, _ := Open(second, 0)
		_, code2, _ := Open(second, 0)
		overwrite(second)
		overwrite(code1)
		if !slices.Equal(code2, x.code) {
			t.Fatalf("P2: Open of %v: not the caller's own", x.h)
		}
	}
}

// TestP2NoneIsEmpty: no list and an empty one are the same.
func TestP2NoneIsEmpty(t *testing.T) {
	for _, h := range []api.Header{{W: 32, Steps: 1}, {W: 128, Depth: 3, Steps: 9}, {W: 32, Steps: 1, Words: 1}, {W: 5}} {
		a, e := Pack(h, nil)
		b, f := Pack(h, []byte{})
		if !slices.Equal(a, b) || e != f {
			t.Fatalf("P2: Pack(%v): %s, %v, and %s, %v", h, short(a), e, short(b), f)
		}
	}
	for _, b := range [][]byte{nil, {}} {
		isRefused(t, b, 0, api.ErrCut)
		findsAt(t, b, 0, false)
	}
}

// TestP3TheSameAgain: whatever was asked between.
func TestP3TheSameAgain(t *testing.T) {
	next := counter()
	var rows [][]byte
	for range 50 {
		rows = append(rows, someRow(next))
	}
	for range 3 {
		for _, b := range rows {
			at, ok := findBy(b)
			findsAt(t, b, at, ok)
			opensByTheWords(t, b, at)
		}
	}
}
