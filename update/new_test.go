package update

import (
	"bytes"
	"encoding/hex"
	"math"
	"strconv"
	"strings"
	"testing"

	"turnpike/api"
	"turnpike/fib"
)

// isNoLive asks that there is no live table, and why; and that fib.Make tells the same.
func isNoLive(t *testing.T, tab api.Table, depth, most int, e api.Errno) {
	t.Helper()
	if l, got := New(tab, depth, most); got != e || l != nil {
		t.Fatalf("P2201: New of %d routes of %d by %d, %d: %v; want %v", len(tab.Routes), tab.W, depth, most, got, e)
	}
	if _, got := fib.Make(tab, depth, most); got != e {
		t.Fatalf("fib.Make of %d routes of %d by %d, %d: %v; want %v", len(tab.Routes), tab.W, depth, most, got, e)
	}
}

func TestP2201ByHand(t *testing.T) {
	// The image of example 1 of chapter 20.
	l, m := begun(t, 32, hops{"0": 5}, 1, 100)
	if got := hex.EncodeToString(l.Image()); got != "54504b3120010003000000056dcca887"+"01000001"+"02000001"+"c0000000"+"04000005"+"04000000" {
		t.Errorf("P2201: the image: %s", got)
	}
	if l.Lookup(wordOf("0111")) != 5 || l.Lookup(wordOf("1")) != 0 || l.Log() != 0 {
		t.Error("P2201: another table")
	}
	if e := undoes(t, l, m); e != api.ErrShut {
		t.Errorf("P2201: a table that was just made is undone: %v", e)
	}
	for _, family := range families {
		for _, depth := range []int{1, 2, 3, 5, family} {
			begun(t, family, nil, depth, 20)
			begun(t, family, hops{}, depth, math.MaxInt)
			begun(t, family, hops{"": 65535}, depth, 20)
			begun(t, family, hops{"": 1, "0": 1, "01": 2, "1": 3, "11": 1}, depth, api.MaxImage)
		}
		if family == 32 {
			begun(t, family, hops{dotted(10): 1, dotted(10, 1): 2, dotted(10, 1, 2, 3): 65535}, 4, 1<<22+1)
		} else {
			begun(t, family, hops{"": 7, strings.Repeat("1", 128): 1, strings.Repeat("0", 128): 2}, 32, api.MaxImage)
		}
	}
}

// TestP2201Errors: each of fib.Make's, by itself and of several the first.
func TestP2201Errors(t *testing.T) {
	right := hops{"": 1, "0": 2, "01": 3}.table(32)
	n, _ := fib.Size(right, 2)
	for _, family := range noFamilies {
		for _, depth := range []int{0, 1, 33} {
			isNoLive(t, api.Table{W: family}, depth, 100, api.ErrFamily)
			isNoLive(t, api.Table{W: family, Routes: right.Routes}, depth, 0, api.ErrFamily)
		}
	}
	for _, family := range families {
		with := func(l ...api.Route) api.Table { return api.Table{W: family, Routes: l} }
		for _, depth := range []int{math.MinInt, -1, 0, 1, family, family + 1, math.MaxInt} {
			for _, most := range []int{math.MinInt, 0, api.MaxImage, math.MaxInt} {
				isNoLive(t, with(set("0", 1).Route, api.Route{At: api.Prefix{Len: family + 1}}), depth, most, api.ErrLen)
				isNoLive(t, with(api.Route{At: api.Prefix{Len: -1}, Hop: 1}, set("0", 0).Route), depth, most, api.ErrLen)
				isNoLive(t, with(api.Route{At: api.Prefix{Addr: wordOf("01"), Len: 1}}), depth, most, api.ErrHost)
				isNoLive(t, with(set("1", 1).Route, set("1", 0).Route, set("0", 65536).Route), depth, most, api.ErrHop)
				isNoLive(t, with(set("1", 1).Route, set("0", 65536).Route), depth, most, api.ErrHop)
				isNoLive(t, with(set("1", 1).Route, set("0", 1).Route), depth, most, api.ErrOrder)
				isNoLive(t, with(set("1", 1).Route, set("1", 1).Route), depth, most, api.ErrOrder)
			}
		}
		for _, depth := range []int{math.MinInt, -1, 0, family + 1, 129, 256 + 1, 1<<32 + 1, math.MaxInt} {
			isNoLive(t, api.Table{W: family}, depth, math.MaxInt, api.ErrDepth)
			isNoLive(t, api.Table{W: family}, depth, 0, api.ErrDepth)
		}
		for _, most := range []int{math.MinInt, math.MinInt + 16, -1, 0, 1, 16, 19} {
			isNoLive(t, api.Table{W: family}, 1, most, api.ErrSize)
		}
		// A node of more bits than an image holds.
		isNoLive(t, hops{strings.Repeat("0", 25): 1}.table(family), 1, math.MaxInt, api.ErrSize)
	}
	isNoLive(t, right, 2, n-1, api.ErrSize)
	begun(t, 32, hops{"": 1, "0": 2, "01": 3}, 2, n)
}

// TestP2201Great: just as many routes as there may be, and one more; an image of more bytes than there may be.
func TestP2201Great(t *testing.T) {
	tab := fullTable(32, 3)
	l, e := New(tab, 1, api.MaxImage)
	if e != api.OK || len(l.Table().Routes) != 1<<20 || l.Lookup(wordOf("1")) != 3 {
		t.Fatalf("P2201: of MaxEntries routes: %v", e)
	}
	more := api.Table{W: 32, Routes: append(tab.Routes, set(strings.Repeat("1", 21), 1).Route)}
	isNoLive(t, more, 1, api.MaxImage, api.ErrLimit)
	isNoLive(t, more, 0, 0, api.ErrLimit)
	more.Routes[5].Hop = 0
	isNoLive(t, more, 1, api.MaxImage, api.ErrLimit)
	for i := range tab.Routes {
		tab.Routes[i].Hop = 1 + i%2
	}
	isNoLive(t, tab, 1, math.MaxInt, api.ErrSize)
}

// TestP2201ImagesFromThenOn: whatever is done, the image is by the depth and the limit of New.
func TestP2201ImagesFromThenOn(t *testing.T) {
	kinds := map[string]bool{}
	for _, depth := range []int{1, 2, 3, 32} {
		for _, most := range []int{60, 120, 200, math.MaxInt} {
			l, m := begun(t, 32, hops{"": 1}, depth, most)
			for n, c := range []api.Change{set("0", 2), set("011", 3), set("00101", 4), drop("0"), set("0111011", 5), set("1", 2), drop(""), set("0010111101", 7)} {
				kinds[strconv.Itoa(n)+does(t, l, m, changes(c)).Error()] = true
			}
			for undoes(t, l, m) == api.OK {
			}
			if b, _ := fib.Make(hops{"": 1}.table(32), depth, most); !bytes.Equal(l.Image(), b) {
				t.Error("P2201: undone as far as can be the image is another one")
			}
		}
	}
	if !kinds["7ok"] || !kinds["7size"] || !kinds["2size"] {
		t.Errorf("what was told: %v", kinds)
	}
}
