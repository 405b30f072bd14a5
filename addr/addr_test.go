package addr

import (
	"testing"

	"turnpike/api"
)

func TestP201Right(t *testing.T) {
	for _, family := range families {
		for _, w := range samples(family) {
			if e := Right(family, w); e != api.OK {
				t.Errorf("Right(%d, %x) = %v", family, w, e)
			}
		}
	}
	for _, family := range noFamilies {
		for _, w := range []api.Word{{}, {Lo: 1}, lastFour, lastSix} {
			if e := Right(family, w); e != api.ErrFamily {
				t.Errorf("Right(%d, %x) = %v, want ErrFamily", family, w, e)
			}
		}
	}
}

func TestP201RightTooWide(t *testing.T) {
	for _, ahead := range []api.Word{{}, {Hi: 0x0a000001 << 32}, lastFour} {
		for i := range 32 {
			w := api.Word{Hi: ahead.Hi | 1<<i}
			if e := Right(32, w); e != api.ErrWide {
				t.Errorf("Right(32, %x) = %v, want ErrWide", w, e)
			}
		}
		for i := range 64 {
			w := api.Word{Hi: ahead.Hi, Lo: 1 << i}
			if e := Right(32, w); e != api.ErrWide {
				t.Errorf("Right(32, %x) = %v, want ErrWide", w, e)
			}
		}
	}
	if Right(32, lastSix) != api.ErrWide || Right(128, lastSix) != api.OK {
		t.Error("all bits set")
	}
}

func TestP201Last(t *testing.T) {
	if w, e := Last(32); e != api.OK || w != lastFour {
		t.Errorf("Last(32) = %x, %v", w, e)
	}
	if w, e := Last(128); e != api.OK || w != lastSix {
		t.Errorf("Last(128) = %x, %v", w, e)
	}
	for _, family := range noFamilies {
		if w, e := Last(family); e != api.ErrFamily || w != (api.Word{}) {
			t.Errorf("Last(%d) = %x, %v, want ErrFamily", family, w, e)
		}
	}
}

func TestP201Beside(t *testing.T) {
	for _, family := range families {
		for _, w := range samples(family) {
			a := inLibrary(family, w)
			if next, ok := Next(family, w); ok != a.Next().IsValid() || ok && inLibrary(family, next) != a.Next() {
				t.Errorf("Next(%d, %x) = %x, %v", family, w, next, ok)
			}
			if prev, ok := Prev(family, w); ok != a.Prev().IsValid() || ok && inLibrary(family, prev) != a.Prev() {
				t.Errorf("Prev(%d, %x) = %x, %v", family, w, prev, ok)
			}
		}
	}
}

func TestP201BesideAcrossHalves(t *testing.T) {
	low, high := api.Word{Lo: ^uint64(0)}, api.Word{Hi: 1}
	if w, ok := Next(128, low); !ok || w != high {
		t.Errorf("Next = %x, %v", w, ok)
	}
	if w, ok := Prev(128, high); !ok || w != low {
		t.Errorf("Prev = %x, %v", w, ok)
	}
	if w, ok := Next(32, api.Word{}); !ok || w != (api.Word{Hi: 1 << 32}) {
		t.Errorf("Next of 0.0.0.0 = %x, %v", w, ok)
	}
}

// noNext asks that there is none behind, and the word 0 beside the false.
func noNext(t *testing.T, family int, w api.Word) {
	t.Helper()
	if x, ok := Next(family, w); ok || x != (api.Word{}) {
		t.Errorf("Next(%d, %x) = %x, %v", family, w, x, ok)
	}
}

func noPrev(t *testing.T, family int, w api.Word) {
	t.Helper()
	if x, ok := Prev(family, w); ok || x != (api.Word{}) {
		t.Errorf("Prev(%d, %x) = %x, %v", family, w, x, ok)
	}
}

func TestP201NothingBeside(t *testing.T) {
	noNext(t, 32, lastFour)
	noNext(t, 128, lastSix)
	noPrev(t, 32, api.Word{})
	noPrev(t, 128, api.Word{})
	for _, w := range []api.Word{{Lo: 1}, {Hi: 1}, {Hi: 1 << 31}, {Hi: 0x0a000001<<32 | 1}, {Hi: 0x0a000001 << 32, Lo: 1 << 63}, lastSix} {
		noNext(t, 32, w)
		noPrev(t, 32, w)
	}
	for _, family := range noFamilies {
		for _, w := range []api.Word{{}, {Lo: 5}, {Hi: 0x0a000001 << 32}} {
			noNext(t, family, w)
			noPrev(t, family, w)
		}
	}
}

func TestP205BesideUndone(t *testing.T) {
	for _, family := range families {
		for _, w := range samples(family) {
			if next, ok := Next(family, w); ok {
				if back, ok := Prev(family, next); !ok || back != w {
					t.Errorf("Prev of Next(%d, %x) = %x, %v", family, w, back, ok)
				}
			}
			if prev, ok := Prev(family, w); ok {
				if back, ok := Next(family, prev); !ok || back != w {
					t.Errorf("Next of Prev(%d, %x) = %x, %v", family, w, back, ok)
				}
			}
		}
	}
}

// walk asks that Next goes from one address on through just those whose number is one greater each, n of them.
func walk(t *testing.T, family int, w, unit api.Word, n int) api.Word {
	t.Helper()
	for range n {
		next, ok := Next(family, w)
		want := api.Word{Hi: w.Hi + unit.Hi, Lo: w.Lo + unit.Lo}
		if !ok || next != want || Right(family, next) != api.OK {
			t.Fatalf("Next(%d, %x) = %x, %v, want %x", family, w, next, ok, want)
		}
		w = next
	}
	return w
}

func TestP205FromNoughtToLast(t *testing.T) {
	four, six := api.Word{Hi: 1 << 32}, api.Word{Lo: 1}
	walk(t, 32, api.Word{}, four, 70000)
	walk(t, 128, api.Word{}, six, 70000)
	if w := walk(t, 32, api.Word{Hi: (0xffffffff - 300) << 32}, four, 300); w != lastFour {
		t.Errorf("%x is not the last one", w)
	}
	if w := walk(t, 128, api.Word{Hi: ^uint64(0), Lo: ^uint64(0) - 300}, six, 300); w != lastSix {
		t.Errorf("%x is not the last one", w)
	}
}

func TestNoFamily(t *testing.T) {
	for _, family := range noFamilies {
		for _, s := range []string{"", "::", "1.2.3.4", "1::", "no text at all"} {
			if w, e := Parse(family, s); e != api.ErrFamily || w != (api.Word{}) {
				t.Errorf("P203: Parse(%d, %q) = %x, %v, want ErrFamily", family, s, w, e)
			}
		}
		for _, w := range []api.Word{{}, {Lo: 1}, lastSix} {
			if s, e := Text(family, w); e != api.ErrFamily || s != "" {
				t.Errorf("P204: Text(%d, %x) = %q, %v, want ErrFamily", family, w, s, e)
			}
		}
	}
}
