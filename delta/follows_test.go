package delta

import (
	"bytes"
	"math"
	"slices"
	"strconv"
	"strings"
	"testing"

	"turnpike/api"
	"turnpike/fib"
)

// makes asks that the difference of two rows makes the second one of the first, also when it went as bytes; and tells its Weight.
func makes(t *testing.T, a, b []byte) int {
	t.Helper()
	l := Diff(a, b)
	if out, e := Apply(a, l); !bytes.Equal(out, b) || e != api.OK {
		t.Fatalf("P2105: %s by %s: %s, %v; want %s", short(a), shown(l), short(out), e, short(b))
	}
	weight := Weight(l)
	if weight > len(b) {
		t.Fatalf("P2105: %s weigh %d; %d bytes are made", shown(l), weight, len(b))
	}
	laid, e := Bytes(a, l)
	if e != api.OK {
		t.Fatalf("P2103: Bytes(%s, %s): %v", short(a), shown(l), e)
	}
	if read, e := Parse(a, laid); !alike(read, l) || e != api.OK {
		t.Fatalf("P2106: %s: %s, %v; want %s", short(laid), shown(read), e, shown(l))
	}
	return weight
}

// TestP2105All: each two short rows of few letters.
func TestP2105All(t *testing.T) {
	for _, l := range [][]string{rows("ab", 5), rows("abc", 3)} {
		for _, a := range l {
			for _, b := range l {
				makes(t, []byte(a), []byte(b))
			}
		}
	}
}

func TestP2105AnyRows(t *testing.T) {
	next := counter()
	for range 5000 {
		makes(t, someRow(next, 200), someRow(next, 200))
	}
}

// TestP2105TakenOut: bytes that lie in one row taken out: nothing is brought; of rows of few letters, too, where others than those are told to go.
func TestP2105TakenOut(t *testing.T) {
	for _, letters := range []string{"ab", "abc"} {
		for _, a := range rows(letters, 5) {
			for from := range len(a) + 1 {
				for end := from; end <= len(a); end++ {
					if n := makes(t, []byte(a), []byte(a[:from]+a[end:])); n != 0 {
						t.Fatalf("P2105: %q without %q weighs %d", a, a[from:end], n)
					}
				}
			}
		}
	}
	next := counter()
	for range 5000 {
		a := someRow(next, 300)
		from := upTo(next, len(a)+1)
		end := from + upTo(next, len(a)-from+1)
		if n := makes(t, a, slices.Concat(a[:from], a[end:])); n != 0 {
			t.Fatalf("P2105: %s without %d to %d weighs %d", short(a), from, end, n)
		}
	}
}

// TestP2105LaidIn: bytes laid in weigh as much as they are, and drop nothing.
func TestP2105LaidIn(t *testing.T) {
	next := counter()
	for range 5000 {
		a, more := someRow(next, 300), someRow(next, 20)
		at := upTo(next, len(a)+1)
		b := slices.Insert(bytes.Clone(a), at, more...)
		if n := makes(t, a, b); n != len(more) {
			t.Fatalf("P2105: %s with %s at %d weighs %d", short(a), short(more), at, n)
		}
		if l := Diff(a, b); len(more) > 0 && l[0].Drop != 0 {
			t.Fatalf("P2105: %s with %s at %d: %s", short(a), short(more), at, shown(l))
		}
	}
}

// TestP2105Whole: of no row all is brought, as it is of one that has nothing alike.
func TestP2105Whole(t *testing.T) {
	for _, a := range []string{"", "abc", strings.Repeat("a", 1000)} {
		for _, b := range []string{"x", "xyz", strings.Repeat("x", 1000)} {
			if n := makes(t, []byte(a), []byte(b)); n != len(b) {
				t.Errorf("P2105: %q of %q weighs %d", b, a, n)
			}
		}
		if n := makes(t, []byte(a), nil); n != 0 {
			t.Errorf("P2105: nothing of %q weighs %d", a, n)
		}
	}
}

// TestP2105Length: what is made has as many bytes as the row, less all that are dropped, and those that are brought.
func TestP2105Length(t *testing.T) {
	next := counter()
	for range 10000 {
		a := someRow(next, 60)
		l := someFitting(next, len(a))
		drops := 0
		for _, p := range l {
			drops += p.Drop
		}
		if b, e := Apply(a, l); len(b) != len(a)-drops+Weight(l) || e != api.OK {
			t.Fatalf("P2105: Apply(%s, %s): %s, %v", short(a), shown(l), short(b), e)
		}
	}
}

// TestP2106ThereAndBack: of many lists that fit; and of two rows each reads its own alone.
func TestP2106ThereAndBack(t *testing.T) {
	next := counter()
	seen := map[int]int{}
	for range 10000 {
		a := someRow(next, 60)
		l := someFitting(next, len(a))
		seen[len(l)]++
		b, e := Bytes(a, l)
		if e != api.OK {
			t.Fatalf("P2103: Bytes(%s, %s): %v", short(a), shown(l), e)
		}
		isParsed(t, a, b, l, api.OK)
		if other := someRow(next, 60); !bytes.Equal(a, other) {
			isParsed(t, other, b, nil, api.ErrPatch)
		}
		// What is read is laid down as it was.
		isLaid(t, a, l, b, api.OK)
	}
	if len(seen) < 7 {
		t.Errorf("the samples: %v", seen)
	}
}

// TestP2106All: each list of two patches that fits a short row.
func TestP2106All(t *testing.T) {
	for n := range 4 * 4 * 4 * 4 {
		l := patches(patch(n%4, n/4%4, "xy"[:n%3]), patch(n/16%4, n/64, "z"[:n%2]))
		for _, l := range [][]api.Patch{l, l[:1]} {
			if b, e := Bytes(abc, l); fitBy(len(abc), l) {
				isParsed(t, abc, b, l, api.OK)
			} else if e != api.ErrPatch {
				t.Fatalf("P2103: %s: %v", shown(l), e)
			}
		}
	}
}

// someImage is an image of some routes.
func someImage(t *testing.T, next func() uint64) []byte {
	t.Helper()
	var text strings.Builder
	for range upTo(next, 40) {
		for _, s := range []string{strconv.Itoa(upTo(next, 4)), ".", strconv.Itoa(upTo(next, 256)), ".0.0/16 ", strconv.Itoa(1 + upTo(next, 9)), "\n"} {
			text.WriteString(s)
		}
	}
	b, err := fib.Compile(text.String(), 32, 4, api.MaxImage)
	if err != nil {
		t.Fatal(err)
	}
	return b
}

// TestT9Images: a patch of two images makes the second of the first, and what it makes may be looked up in.
func TestT9Images(t *testing.T) {
	next := counter()
	last := someImage(t, next)
	for range 200 {
		b := someImage(t, next)
		makes(t, last, b)
		l := Diff(last, b)
		if made, _ := Apply(last, l); fib.Load(made) != nil {
			t.Fatalf("T9: %s is no image", short(made))
		}
		last = b
	}
}

// TestP1WhateverBytes: whatever is read and applied, all that leaves is an answer.
func TestP1WhateverBytes(t *testing.T) {
	next := counter()
	for range 20000 {
		a := someRow(next, 20)
		b := someRow(next, 80)
		if upTo(next, 2) == 0 {
			b = slices.Concat(headOf(a, one(next, 0, 1, 2, 3, 1<<31, 1<<32-1)), b)
		}
		if upTo(next, 2) == 0 {
			b = sealed(b)
		}
		isParsedBy(t, a, b)
		isParsedBy(t, b, a)
		isParsedBy(t, b, b)
	}
	for _, row := range [][]byte{nil, {}, abc, make([]byte, 100)} {
		for _, p := range edges {
			for _, q := range edges {
				for _, data := range [][]byte{nil, {}, abc} {
					for _, l := range [][]api.Patch{{{Keep: p, Drop: q, Data: data}}, {{Keep: p, Data: data}, {Drop: q}, {}}} {
						want, e := bytesBy(row, l)
						isLaid(t, row, l, want, e)
						isApplied(t, string(row), l, string(first(applyBy(row, l))), e)
						Weight(l)
					}
				}
			}
		}
	}
}

func first(b []byte, _ api.Errno) []byte { return b }

// TestP3TheSameAgain: asked again all is told again, whatever was asked between.
func TestP3TheSameAgain(t *testing.T) {
	next := counter()
	for range 300 {
		a, b := someRow(next, 50), someRow(next, 50)
		l, laid := Diff(a, b), unfitBytes(a, someFitting(next, len(a)))
		made, _ := Apply(a, l)
		read, _ := Parse(a, laid)
		for range 3 {
			if _, e := Parse(b, sealed(laid)); e == api.OK {
				t.Fatalf("P2104: %s is read with a sum too many", short(laid))
			}
			Apply(b, patches(patch(math.MaxInt, 1, "")))
			isDiff(t, string(a), string(b), l...)
			isApplied(t, string(a), l, string(made), api.OK)
			isParsed(t, a, laid, read, api.OK)
			want, e := bytesBy(a, l)
			isLaid(t, a, l, want, e)
		}
	}
}

// roomy is a copy of a row with room behind it.
func roomy(b []byte) []byte {
	return append(slices.Clone(b), "the room behind"...)[:len(b)]
}

// whole is a row with the room behind it.
func whole(b []byte) []byte {
	return b[:cap(b)]
}

// handed is rows and patches to be handed in, with room behind each of them.
type handed struct {
	a, b []byte
	l    []api.Patch
}

func handedOf(a, b []byte, l []api.Patch) handed {
	m := append(slices.Clone(l), patch(7, 7, "the room behind"), patch(8, 8, "the room behind"))[:len(l)]
	for i := range m {
		m[i].Data = roomy(m[i].Data)
	}
	return handed{a: roomy(a), b: roomy(b), l: m}
}

// seen is all that can be seen of them, the room behind each of them, too.
func (h handed) seen() string {
	var s strings.Builder
	for _, p := range append([]api.Patch{{Data: h.a}, {Data: h.b}}, h.l[:cap(h.l)]...) {
		s.WriteString(strconv.Itoa(p.Keep) + " " + strconv.Itoa(p.Drop) + " " + strconv.Quote(string(whole(p.Data))) + "\n")
	}
	return s.String()
}

// spoil writes over all of a row, the room behind it, too, and grows it.
func spoil(b []byte) {
	for i := range whole(b) {
		whole(b)[i] ^= 0x55
	}
	_ = append(b, "grown"...)
}

// TestP2NothingIsChanged: neither the rows nor the patches that are handed in, nor the room behind them; whatever is told, and when that is written over.
func TestP2NothingIsChanged(t *testing.T) {
	next := counter()
	for n := range 2000 {
		a := someRow(next, 30)
		l := someFitting(next, len(a))
		if n%3 == 0 {
			l = somePatches(next, len(a))
		}
		b := unfitBytes(a, l)
		if n%4 == 0 {
			b = sealed(someRow(next, 40))
		}
		h := handedOf(a, b, l)
		was := h.seen()
		applied, _ := Apply(h.a, h.l)
		laid, _ := Bytes(h.a, h.l)
		read, _ := Parse(h.a, h.b)
		diff := Diff(h.a, h.b)
		Weight(h.l)
		if h.seen() != was {
			t.Fatalf("P2: %s\nwas %s", h.seen(), was)
		}
		spoil(applied)
		spoil(laid)
		for _, p := range append(read, diff...) {
			spoil(p.Data)
		}
		if h.seen() != was {
			t.Fatalf("P2: an answer is written over, and with it what was handed in: %s\nwas %s", h.seen(), was)
		}
	}
}

// TestP2AnswersAreTheCallersOwn: what is told stays when what was handed in is written over, and when it is asked again; no two rows of an answer share any room.
func TestP2AnswersAreTheCallersOwn(t *testing.T) {
	next := counter()
	for range 2000 {
		a, b := someRow(next, 30), someRow(next, 30)
		l := someFitting(next, len(a))
		h := handedOf(a, unfitBytes(a, l), l)
		other := handedOf(a, b, nil)
		applied, _ := Apply(h.a, h.l)
		laid, _ := Bytes(h.a, h.l)
		read, _ := Parse(h.a, h.b)
		again, _ := Parse(h.a, h.b)
		diff := Diff(other.a, other.b)
		for _, b := range [][]byte{h.a, h.b, other.a, other.b} {
			spoil(b)
		}
		for _, p := range h.l {
			spoil(p.Data)
		}
		clear(h.l)
		want, _ := applyBy(a, l)
		if !bytes.Equal(applied, want) || !bytes.Equal(laid, unfitBytes(a, l)) || !alike(read, l) || !alike(diff, diffBy(string(a), string(b))) {
			t.Fatalf("P2: what was handed in is written over, and with it the answers: %s, %s, %s, %s", short(applied), short(laid), shown(read), shown(diff))
		}
		for i := range read {
			spoil(read[i].Data)
			read[i] = patch(9, 9, "other")
			if !alike(read[i+1:], l[i+1:]) || !alike(again, l) {
				t.Fatalf("P2: Data %d is written over, and with it another one: %s, %s", i, shown(read), shown(again))
			}
		}
	}
}

// TestP4NothingBeside: beside an error there is nothing at all.
func TestP4NothingBeside(t *testing.T) {
	bad := patches(patch(0, 0, "xyz"), patch(4, 0, ""))
	if b, e := Apply(abc, bad); b != nil || e != api.ErrPatch {
		t.Errorf("P4: Apply: %q, %v", b, e)
	}
	if b, e := Bytes(abc, bad); b != nil || e != api.ErrPatch {
		t.Errorf("P4: Bytes: %q, %v", b, e)
	}
	for _, b := range [][]byte{nil, unfitBytes(abc, bad), sealed(unfitBytes(abc, some)), unfitBytes(abc, some)[1:]} {
		if l, e := Parse(abc, b); l != nil || e == api.OK {
			t.Errorf("P4: Parse: %s, %v", shown(l), e)
		}
	}
}
