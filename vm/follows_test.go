package vm

import (
	"bytes"
	"math"
	"slices"
	"strconv"
	"testing"

	"turnpike/api"
	"turnpike/emit"
	"turnpike/mtrie"
	"turnpike/share"
	"turnpike/stride"
	"turnpike/table"
	"turnpike/verify"
)

// TestP1903Grow: places only grow (but an answer stays where it stands), so that no run does more steps than code has words.
func TestP1903Grow(t *testing.T) {
	next := counter()
	for _, b := range samples() {
		family := one(next, families...)
		m := New(family, b, someAddress(next, family))
		places := stepped(m)
		if last := len(places) - 1; m.Result().Err == api.OK {
			if last == 0 || places[last] != places[last-1] {
				t.Fatalf("P1903: %s: an answer does not stay: %v", short(b), places)
			}
			places = places[:last]
		}
		for k := range places[1:] {
			if places[k+1] <= places[k] {
				t.Fatalf("P1903: %s: from %d to %d", short(b), places[k], places[k+1])
			}
		}
		if m.Result().Steps > len(b)/4 {
			t.Fatalf("P1903: %s: %+v", short(b), m.Result())
		}
	}
}

// isEnough asks for what Run tells with as many steps as code has words, with more, and with fewer.
func isEnough(t *testing.T, family int, b []byte, w api.Word) {
	t.Helper()
	m := New(family, b, w)
	states := []api.Result{m.Result()}
	for m.Step() {
		states = append(states, m.Result())
	}
	end, words := m.Result(), len(b)/4
	for _, fuel := range []int{words, words + 1, words + 2, max(words, api.MaxFuel) + 1, math.MaxInt} {
		want := end
		if fuel == words && end.Steps == words && end.Err == api.ErrBounds {
			// A step was done at each word, and none is left over in which to meet the end of the code: P1901 has ErrFuel here.
			want.Err = api.ErrFuel
		}
		isRun(t, family, b, w, fuel, want)
	}
	for fuel := range min(words, 200) {
		r := Run(family, b, w, fuel)
		if r.Steps > fuel {
			t.Fatalf("P1903: %s by %d: %+v", short(b), fuel, r)
		}
		if r != end {
			r.Err = api.OK
			if r != states[fuel] || r.Steps != fuel {
				t.Fatalf("P1903: %s by %d: %+v, want %+v", short(b), fuel, r, states[fuel])
			}
		}
	}
}

func TestP1903Enough(t *testing.T) {
	next := counter()
	for _, b := range samples() {
		family := one(next, families...)
		isEnough(t, family, b, someAddress(next, family))
	}
	isEnough(t, 64, codeOf("r1"), api.Word{})
	isEnough(t, 32, codeOf("r1"), api.Word{Lo: 1})
}

// TestP1903Long: very many steps.
func TestP1903Long(t *testing.T) {
	const words = 1 << 20
	b := bytes.Repeat(codeOf("j1"), words)
	isRun(t, 32, b, api.Word{}, math.MaxInt, api.Result{Err: api.ErrBounds, Steps: words})
	isRun(t, 32, b, api.Word{}, words-1, api.Result{Err: api.ErrFuel, Steps: words - 1})
	copy(b[4*words-4:], codeOf("r9"))
	isRun(t, 32, b, api.Word{}, words, api.Result{Hop: 9, Steps: words})
	m := New(32, b, api.Word{})
	if n := len(stepped(m)); n != words+1 || m.Place() != words-1 {
		t.Errorf("P1903: %d places, the last one %d", n, m.Place())
	}
}

// TestP1904Behind: what stands behind the last word that is read, turned, cut off, or laid behind the code, changes nothing.
func TestP1904Behind(t *testing.T) {
	next := counter()
	cut := 0
	for _, b := range samples() {
		family := one(next, families...)
		w := someAddress(next, family)
		l := lifeOf(family, b, w)
		last := -1
		for at := range l.reads {
			last = max(last, at)
		}
		if l.end.Err == api.ErrBounds {
			// Its last reading is at the code's end, or behind it.
			continue
		}
		cut++
		read := b[:4*(last+1)]
		behind := slices.Clone(b)
		for i := len(read); i < len(b); i++ {
			behind[i] ^= 1 << upTo(next, 8)
		}
		for _, other := range [][]byte{read, behind, append(slices.Clone(b), 4, 0, 0, 1), append(slices.Clone(read), byte(next())), append(slices.Clone(read), bytes.Repeat(codeOf("r77"), 20)...)} {
			isRun(t, family, other, w, math.MaxInt, l.end)
			isStepped(t, family, other, w, l)
		}
	}
	if cut < 3000 {
		t.Errorf("only %d runs end ahead of the code's end", cut)
	}
}

// TestP1904Between: nor does what stands where it is not read.
func TestP1904Between(t *testing.T) {
	next := counter()
	turned := 0
	for _, b := range samples() {
		family := one(next, families...)
		w := someAddress(next, family)
		l := lifeOf(family, b, w)
		other := slices.Clone(b)
		for i := range other {
			if !l.reads[i/4] {
				other[i] = byte(next() >> 11)
				turned++
			}
		}
		isRun(t, family, other, w, math.MaxInt, l.end)
		isStepped(t, family, other, w, l)
	}
	if turned < 10000 {
		t.Errorf("only %d bytes are turned", turned)
	}
}

// TestP1904SpareRoom: what stands in the spare room of code is not read.
func TestP1904SpareRoom(t *testing.T) {
	for _, text := range []string{"j1 r1", "x1 i1:80000000 r1", "i6:80000000:80000000", "x6 i6:80000000:80000000 r1", "r1"} {
		whole := codeOf(text)
		for size := range whole {
			b, alone := whole[:size], slices.Clone(whole[:size])
			if r, want := Run(32, b, api.Word{}, 9), Run(32, alone, api.Word{}, 9); r != want {
				t.Errorf("P1904: %d bytes of %s: %+v, want %+v", size, text, r, want)
			}
			isStepped(t, 32, b, api.Word{}, lifeOf(32, alone, api.Word{}))
		}
	}
}

// TestP2NothingIsChanged: neither code nor its spare room.
func TestP2NothingIsChanged(t *testing.T) {
	next := counter()
	for _, c := range samples() {
		for _, family := range []int{32, 128, 64} {
			b, asItWas := guarded(c)
			w := someAddress(next, family)
			Run(family, b, w, 1+upTo(next, 30))
			Run(family, b, w, math.MaxInt)
			stepped(New(family, b, w))
			if !asItWas() {
				t.Fatalf("P2: %s is changed", short(c))
			}
		}
	}
}

// TestP2NoListIsAnEmptyOne: nil and a list of none are the same.
func TestP2NoListIsAnEmptyOne(t *testing.T) {
	for _, b := range [][]byte{nil, {}, make([]byte, 0, 8)} {
		isRun(t, 128, b, api.Word{}, 1, api.Result{Err: api.ErrBounds})
		isRun(t, 128, b, api.Word{}, 0, api.Result{Err: api.ErrFuel})
		isStepped(t, 128, b, api.Word{}, life{so: []api.Result{{}}, at: []int{0}, end: api.Result{Err: api.ErrBounds}})
	}
}

// TestP3AtOnce: runs that go on at the same time over the same code tell what they tell one behind the other.
func TestP3AtOnce(t *testing.T) {
	codes := samples()[:1000]
	done := make(chan int)
	for k := range 4 {
		go func() {
			wrong := 0
			w := api.Word{Hi: uint64(k) << 62}
			for _, b := range codes {
				want := lifeOf(128, b, w).end
				m := New(128, b, w)
				stepped(m)
				if Run(128, b, w, math.MaxInt) != want || m.Result() != want {
					wrong++
				}
			}
			done <- wrong
		}()
	}
	for range 4 {
		if wrong := <-done; wrong > 0 {
			t.Errorf("P3: %d answers are other ones", wrong)
		}
	}
}

// someTable is the table of a text without a pattern: routes that lie within one another, and beside one another.
func someTable(t *testing.T, next func() uint64, family int) api.Table {
	t.Helper()
	text := ""
	for range upTo(next, 25) {
		size := upTo(next, one(next, 4, 9, 20, 33))
		bits := uint32(next()) & uint32(next()|0x80000000)
		if upTo(next, 3) == 0 {
			bits &= 0xc0100000
		}
		bits = uint32(uint64(bits) >> (32 - size) << (32 - size))
		hop := strconv.Itoa(1 + upTo(next, one(next, 3, 65535)))
		if family == 32 {
			text += strconv.Itoa(int(bits>>24)) + "." + strconv.Itoa(int(bits>>16&255)) + "." + strconv.Itoa(int(bits>>8&255)) + "." + strconv.Itoa(int(bits&255)) + "/" + strconv.Itoa(size) + " " + hop + "\n"
		} else {
			text += strconv.FormatUint(uint64(bits>>16), 16) + ":" + strconv.FormatUint(uint64(bits&0xffff), 16) + "::/" + strconv.Itoa(size+one(next, 0, 0, 96)) + " " + hop + "\n"
		}
	}
	tab, f := table.Parse(family, text)
	if f.Err != api.OK {
		t.Fatalf("%v of %s", f, text)
	}
	return tab
}

// addresses are the edges of a table's prefixes, and some more.
func addresses(next func() uint64, tab api.Table) []api.Word {
	var l []api.Word
	for _, r := range tab.Routes {
		w := r.At.Addr
		l = append(l, w)
		w.Hi |= uint64(next()) >> min(63, r.At.Len)
		if w.Lo = next() & next(); tab.W == 32 {
			w = api.Word{Hi: w.Hi >> 32 << 32}
		}
		l = append(l, w)
	}
	for range 6 {
		l = append(l, someAddress(next, tab.W))
	}
	return l
}

// TestT1Lookup: of tables that are laid as code each address goes where the longest prefix leads it, by at most depth extracts and indexes, in no more steps than may be.
func TestT1Lookup(t *testing.T) {
	next := counter()
	depths := map[int]int{}
	for range 1500 {
		family := one(next, families...)
		tab := someTable(t, next, family)
		plan, e := stride.Best(tab, one(next, 2, 3, 5, family))
		if e != api.OK {
			t.Fatal(e)
		}
		nodes, e := mtrie.Build(tab, plan)
		if e != api.OK {
			t.Fatal(e)
		}
		if nodes, e = share.Share(family, nodes); e != api.OK {
			t.Fatal(e)
		}
		b, e := emit.Code(family, nodes, api.MaxImage)
		if e == api.ErrSize {
			continue
		}
		depth, _, e := verify.Code(family, b)
		if e != api.OK {
			t.Fatal(e)
		}
		depths[depth]++
		for _, w := range addresses(next, tab) {
			r := Run(family, b, w, max(1, 3*depth))
			if r.Err != api.OK || r.Hop != table.Lookup(tab, w) || r.Extracts > depth || r.Indexes > depth || r.Bits > family {
				t.Fatalf("T1: %x in %s: %+v; want %d, and the depth is %d", w, short(b), r, table.Lookup(tab, w), depth)
			}
			isRun(t, family, b, w, api.MaxFuel, r)
		}
	}
	if len(depths) < 6 || depths[0] == 0 || depths[2] < 50 {
		t.Errorf("T1: depths %v", depths)
	}
}
