package fib

import (
	"bytes"
	"errors"
	"math"
	"slices"
	"strings"
	"testing"

	"turnpike/addr"
	"turnpike/api"
	"turnpike/image"
	"turnpike/table"
	"turnpike/vm"
)

// isLookedUp asks of an image all that T1 and T3 say of an address, whose next hop this is.
func isLookedUp(t *testing.T, b []byte, depth int, w api.Word, want int) {
	t.Helper()
	h, code, e := image.Open(b, 0)
	if e != api.OK {
		t.Fatal(e)
	}
	r := vm.Run(h.W, code, w, math.MaxInt)
	if r.Err != api.OK || r.Hop != want || r.Extracts > depth || r.Indexes > depth || r.Steps > 3*depth+1 || r.Steps > h.Steps || r.Bits > h.W {
		t.Fatalf("T1: %x in %s by %d: %+v; want %d", w, short(b), depth, r, want)
	}
	isFound(t, b, 0, w, want)
}

// TestP2006Lookup: over many tables, of the edges of each prefix and of some more addresses.
func TestP2006Lookup(t *testing.T) {
	next := counter()
	l, all := images(t, 900)
	depths := map[int]int{}
	for k, x := range l {
		b := all[k]
		isLoaded(t, b)
		if int(b[5]) > x.depth {
			t.Fatalf("T1: %v by %d has the depth %d", x.h, x.depth, b[5])
		}
		depths[int(b[5])]++
		tab := x.h.table(x.family)
		some := edgesOf(x.family, x.h)
		for range 20 {
			some = append(some, someAddress(next, x.family, x.h))
		}
		if len(b) > 5000 {
			some = some[:min(len(some), 20)]
		}
		for _, s := range some {
			if table.Lookup(tab, wordOf(s)) != x.h.of(s) {
				t.Fatalf("%s in %v leads elsewhere", s, x.h)
			}
			isLookedUp(t, b, x.depth, wordOf(s), x.h.of(s))
		}
	}
	if len(depths) < 9 {
		t.Errorf("the depths: %v", depths)
	}
}

// TestP2006AllAddresses: of tables whose routes have no more than so many bits, each address by these.
func TestP2006AllAddresses(t *testing.T) {
	next := counter()
	const most = 9
	for range 60 {
		family := one(next, families...)
		h := hops{}
		for range upTo(next, 20) {
			size := upTo(next, most+1)
			h[bitsOf(upTo(next, 1<<size), size)] = 1 + upTo(next, 4)
		}
		depth := one(next, 1, 2, 3, 9, family)
		b, err := Compile(h.text(family), family, depth, math.MaxInt)
		if err != nil {
			t.Fatal(err)
		}
		var l []api.Word
		var want []int
		for v := range 1 << most {
			s := bitsOf(v, most)
			for _, end := range []string{"0", "1"} {
				s := s + strings.Repeat(end, family-most)
				l, want = append(l, wordOf(s)), append(want, h.of(s))
			}
		}
		isFarmed(t, 4, b, l, want)
		for i, w := range l {
			if i%16 < 2 {
				isLookedUp(t, b, depth, w, want[i])
			}
		}
	}
}

// TestP2006Great: tables of some thousand routes, by several depths: each tells the same.
func TestP2006Great(t *testing.T) {
	next := counter()
	for _, family := range families {
		tab := greatTable(t, next, family, 2500)
		text, e := table.Text(tab)
		if e != api.OK {
			t.Fatal(e)
		}
		var l []api.Word
		var want []int
		for _, r := range tab.Routes {
			w := r.At.Addr
			l = append(l, w, api.Word{Hi: w.Hi | next()>>min(63, r.At.Len)>>32<<32})
			if w, ok := addr.Prev(family, w); ok {
				l = append(l, w)
			}
		}
		for _, w := range l {
			want = append(want, table.Lookup(tab, w))
		}
		made := 0
		for _, depth := range []int{1, 2, 3, 4, 6, 8, 12, 20, family} {
			b, err := Compile(text, family, depth, math.MaxInt)
			if err != nil {
				if !errors.Is(err, api.ErrSize) {
					t.Fatal(err)
				}
				continue
			}
			made++
			isLoaded(t, b)
			few := len(l)
			if len(b) > 1<<20 {
				// Great maps are counted through at each of them.
				few = 2000
			}
			isFarmed(t, 8, b, l[:few], want[:few])
			for i := 0; i < few; i += 500 {
				isLookedUp(t, b, depth, l[i], want[i])
			}
		}
		if made < 5 {
			t.Errorf("only %d images", made)
		}
	}
}

// TestP2006Longest: in an image that is as long as it may be.
func TestP2006Longest(t *testing.T) {
	b, e := Make(fullTable(128, mostRuns), 1, api.MaxImage)
	if e != api.OK || len(b) != api.MaxImage {
		t.Fatalf("P2006: %s, %v", short(b), e)
	}
	isLoaded(t, b)
	for _, v := range []int{0, 1, 2, 31, 32, 65535, 65536, mostRuns - 3, mostRuns - 2, mostRuns - 1, mostRuns, 1<<20 - 1} {
		want := 1 + v%2
		if v >= mostRuns-1 {
			want = 0
		}
		isLookedUp(t, b, 1, wordOf(bitsOf(v, 20)+"1"), want)
	}
}

// TestT3AnyBytes: whatever is loaded answers each address, in no more steps than the header says; whatever there is, a lookup ends.
func TestT3AnyBytes(t *testing.T) {
	next := counter()
	_, all := images(t, 200)
	all = slices.DeleteFunc(all, func(b []byte) bool { return len(b) > 400 })
	loaded := 0
	for range 30000 {
		b := slices.Clone(one(next, all...))
		code := b[16:]
		for range upTo(next, 3) {
			at := upTo(next, len(code)/4) * 4
			copy(code[at:], codeOf(one(next, "r5", "r6", "j1", "j2", "j3", "x1", "i1", "#80000000", "#c0000000", "#f0000000")))
		}
		b = framed(int(b[4]), int(b[5]), max(1, 3*int(b[5])), code)
		w := wordOf(someAddress(next, int(b[4]), nil))
		if Load(b) != nil {
			Lookup(b, 0, w)
			continue
		}
		loaded++
		r := vm.Run(int(b[4]), code, w, math.MaxInt)
		if r.Err != api.OK || r.Steps > max(1, 3*int(b[5])) {
			t.Fatalf("T3: %x in %s: %+v", w, short(b), r)
		}
		isFound(t, b, 0, w, r.Hop)
		isFarmed(t, 2, b, []api.Word{w}, []int{r.Hop})
	}
	if loaded < 8000 || loaded > 25000 {
		t.Errorf("%d are loaded", loaded)
	}
}

// TestT3Outside: nothing outside of the bytes is read: what stands in their spare room changes nothing.
func TestT3Outside(t *testing.T) {
	b := framed(32, 1, 3, codeOf("x1 i1:c0000000 r5 r6"))
	for size := range b {
		_, alone := Lookup(slices.Clip(slices.Clone(b[:size])), 0, api.Word{})
		isNotFound(t, b[:size], 0, api.Word{}, alone)
		isNotLoaded(t, b[:size], api.ErrCut)
	}
	// The second entry lacks, and stands in the spare room.
	cut := framed(32, 1, 3, codeOf("x1 i1:c0000000 r5"))
	cut = append(cut, codeOf("r6")...)
	isNotFound(t, cut[:len(cut)-4], 0, wordOf("1"), api.ErrBounds)
}

// TestP2NothingIsChanged: neither what is handed in, nor its spare room.
func TestP2NothingIsChanged(t *testing.T) {
	next := counter()
	l, all := images(t, 400)
	for k, x := range l {
		routes, sameRoutes := guarded(x.h.table(x.family).Routes, api.Route{At: api.Prefix{Len: 77}, Hop: 77})
		tab := api.Table{W: x.family, Routes: routes}
		b, sameBytes := guarded(all[k], 0xde)
		some, _ := someAddresses(next, x, 30)
		words, sameWords := guarded(some, api.Word{Hi: 7, Lo: 7})
		Make(tab, x.depth, math.MaxInt)
		Make(tab, x.depth, 20)
		Make(tab, 0, 20)
		Size(tab, x.depth)
		Load(b)
		Load(b[:len(b)-1])
		Lookup(b, 0, words[0])
		Lookup(b, 1, words[0])
		Farm(3, b, words)
		Farm(0, b, words)
		if !sameRoutes() || !sameBytes() || !sameWords() {
			t.Fatalf("P2: what is handed in is changed: %v", x)
		}
	}
	wrong, sameRoutes := guarded([]api.Route{{At: api.Prefix{Len: 2}, Hop: 1}, {At: api.Prefix{Len: 1}, Hop: 1}}, api.Route{Hop: 3})
	Make(api.Table{W: 32, Routes: wrong}, 1, 100)
	if !sameRoutes() {
		t.Error("P2: a wrong table is changed")
	}
}

// wipe overwrites a list and its spare room.
func wipe[T any](l []T, by T) {
	l = l[:cap(l)]
	for i := range l {
		l[i] = by
	}
}

// TestP2AnswersAreTheCallersOwn: what is written into an answer, its spare room too, changes no other one, nor what was handed in; and the other way round.
func TestP2AnswersAreTheCallersOwn(t *testing.T) {
	next := counter()
	l, all := images(t, 300)
	for k, x := range l {
		want := slices.Clone(all[k])
		tab, text := x.h.table(x.family), x.h.text(x.family)
		a, e := Make(tab, x.depth, math.MaxInt)
		b, err := Compile(text, x.family, x.depth, math.MaxInt)
		c, _ := Make(tab, x.depth, math.MaxInt)
		if e != api.OK || err != nil {
			t.Fatalf("%v, %v", e, err)
		}
		wipe(a, 0xff)
		wipe(tab.Routes, api.Route{Hop: 7})
		if !bytes.Equal(b, want) || !bytes.Equal(c, want) {
			t.Fatalf("P2: %v: answers share memory", x)
		}
		words, found := someAddresses(next, x, 20)
		asWords := slices.Clone(words)
		first, e := Farm(2, b, words)
		if e != api.OK {
			t.Fatal(e)
		}
		second, _ := Farm(2, b, words)
		wipe(first, -1)
		if !slices.Equal(second, found) || !bytes.Equal(b, want) || !slices.Equal(words, asWords) {
			t.Fatalf("P2: %v: answers share memory", x)
		}
		wipe(words, api.Word{})
		wipe(b, 0)
		if !slices.Equal(second, found) {
			t.Fatalf("P2: %v: an answer is kept by what was handed in", x)
		}
	}
	// What is told of an error is the caller's own, too.
	_, one := Compile("x", 32, 1, 1)
	_, two := Compile("x", 32, 1, 1)
	one.(*Refused).Err, one.(*Refused).Fault.Line = api.OK, 9
	isRefusal(t, two, Refused{Err: api.ErrSyntax, Fault: api.Fault{Err: api.ErrSyntax, Line: 1, Col: 1}}, "syntax 1:1")
	one, two = Load(nil), Load(nil)
	one.(*Refused).Err = api.OK
	isRefusal(t, two, Refused{Err: api.ErrCut}, "cut")
}

// TestP3TheSameAgain: the same calls answer the same, whatever was asked in between.
func TestP3TheSameAgain(t *testing.T) {
	next := counter()
	l, all := images(t, 300)
	for range 2 {
		for k, x := range slices.Backward(l) {
			b, e := Make(x.h.table(x.family), x.depth, len(all[k]))
			if e != api.OK || !bytes.Equal(b, all[k]) {
				t.Fatalf("P3: %v: %s, %v", x, short(b), e)
			}
			Compile("x", 32, 1, 1)
			Make(hops{"0": 1 + upTo(next, 9)}.table(32), 1, 1000)
			isCompiled(t, x.h.text(x.family), x.family, x.depth, len(all[k]), all[k])
		}
	}
}

// TestP1AnyTable: whatever plain data a table is, Make ends, and tells one thing.
func TestP1AnyTable(t *testing.T) {
	next := counter()
	seen := map[api.Errno]int{}
	for range 20000 {
		x := hops{}
		for range upTo(next, 4) {
			size := upTo(next, 4)
			x[bitsOf(upTo(next, 1<<size), size)] = 1 + upTo(next, 3)
		}
		tab := x.table(one(next, families...))
		for range upTo(next, 2) {
			if len(tab.Routes) == 0 {
				tab.W = int(next())
				break
			}
			r := &tab.Routes[upTo(next, len(tab.Routes))]
			switch upTo(next, 5) {
			case 0:
				r.Hop = int(next())
			case 1:
				r.At.Len = int(next())
			case 2:
				r.At.Addr.Lo |= next()
			case 3:
				r.At.Addr.Hi = uint64(upTo(next, 8)) << 61
			case 4:
				tab.W = int(next())
			}
		}
		depth, most := one(next, 1, 2, 3, 32, 33, 0, int(next())), one(next, 30, 60, 100, -1, int(next()))
		b, e := Make(tab, depth, most)
		if (e == api.OK) != (len(b) > 0) || e == api.OK && len(b) > most {
			t.Fatalf("P1: Make(%v, %d, %d): %s, %v", tab, depth, most, short(b), e)
		}
		want := table.Check(tab)
		if want == api.OK && (depth < 1 || depth > tab.W) {
			want = api.ErrDepth
		}
		if want == api.OK && e == api.ErrSize {
			want = e
		}
		if e != want {
			t.Fatalf("P2001: Make(%v, %d, %d): %v, want %v", tab, depth, most, e, want)
		}
		seen[e]++
	}
	for _, e := range []api.Errno{api.OK, api.ErrFamily, api.ErrLen, api.ErrHost, api.ErrHop, api.ErrOrder, api.ErrDepth, api.ErrSize} {
		if seen[e] < 100 {
			t.Errorf("only %d of %v: %v", seen[e], e, seen)
		}
	}
}
