package update

import (
	"bytes"
	"maps"
	"math"
	"slices"
	"strings"
	"testing"

	"turnpike/api"
	"turnpike/fib"
	"turnpike/table"
)

// TestP2206Scripts: at every moment the image is that of a table made at once; undone as often as done, it is what it was.
func TestP2206Scripts(t *testing.T) {
	next := counter()
	deep := map[int]int{}
	for range 120 {
		family := one(next, families...)
		h := someHops(next, family)
		l, e := New(h.table(family), 16, 20000)
		if e == api.ErrSize {
			continue
		}
		if e != api.OK {
			t.Fatal(e)
		}
		var tables []api.Table
		var images [][]byte
		for range upTo(next, 40) {
			was, image := l.Table(), l.Image()
			if l.Do(someChanges(next, family, h, one(next, 0, 10))) != api.OK {
				continue
			}
			tables, images = append(tables, was), append(images, image)
			now := l.Table()
			if e := table.Check(now); e != api.OK {
				t.Fatalf("P2206: %v: %v", now, e)
			}
			isImage(t, l, now, 16, 20000)
			h = hops{}
			for _, r := range now.Routes {
				s, _ := bitsBy(family, r.At)
				h[s] = r.Hop
			}
		}
		deep[len(tables)]++
		for i, want := range slices.Backward(tables) {
			if e := l.Undo(); e != api.OK || !table.Same(l.Table(), want) || !bytes.Equal(l.Image(), images[i]) {
				t.Fatalf("P2206: undone to %v, %v; want %v", l.Table(), e, want)
			}
		}
		if e := l.Undo(); e != api.ErrShut {
			t.Fatalf("P2206: %v", e)
		}
	}
	if len(deep) < 15 {
		t.Errorf("how often was done: %v", deep)
	}
}

// TestP2206Between: of a live a Do(Between(a, b)) makes b, and back.
func TestP2206Between(t *testing.T) {
	next := counter()
	told := map[api.Errno]int{}
	for range 1000 {
		family := one(next, families...)
		a, b := someHops(next, family), someHops(next, family)
		depth := one(next, 2, 4, 8, family)
		n, e := fib.Size(a.table(family), depth)
		if e != api.OK || n > 20000 {
			continue
		}
		l, m := begun(t, family, a, depth, n+one(next, 0, 100, 1000, 10000))
		c, e := Between(a.table(family), b.table(family))
		if e != api.OK {
			t.Fatal(e)
		}
		e = does(t, l, m, c)
		told[e]++
		if e != api.OK {
			continue
		}
		if !table.Same(l.Table(), b.table(family)) {
			t.Fatalf("P2206: %v of %v: %v; want %v", c, a, l.Table(), b)
		}
		c, _ = Between(b.table(family), a.table(family))
		doesTell(t, l, m, api.OK, c...)
		if !table.Same(l.Table(), a.table(family)) {
			t.Fatalf("P2206: %v of %v: %v; want %v", c, b, l.Table(), a)
		}
	}
	if told[api.OK] < 400 || told[api.ErrSize] < 100 || len(told) != 2 {
		t.Errorf("what was told: %v", told)
	}
}

// TestP2206AllBetween: of all tables of few prefixes.
func TestP2206AllBetween(t *testing.T) {
	prefixes := []string{"", "0", "01", "1"}
	tableOf := func(v int) hops {
		h := hops{}
		for _, s := range prefixes {
			if v%3 > 0 {
				h[s] = v % 3
			}
			v /= 3
		}
		return h
	}
	for _, family := range families {
		for v := range 81 {
			a := tableOf(v)
			l, m := begun(t, family, a, 2, 1000)
			for w := range 81 {
				b := tableOf(w)
				c, _ := Between(a.table(family), b.table(family))
				doesTell(t, l, m, api.OK, c...)
				if !maps.Equal(m.now(), b) {
					t.Fatalf("P2206: %v of %v: %v; want %v", c, a, m.now(), b)
				}
				undoes(t, l, m)
			}
		}
	}
}

// TestP2206AtOnce: changes told in one Do or each by itself come to the same.
func TestP2206AtOnce(t *testing.T) {
	next := counter()
	many := 0
	for range 300 {
		family := one(next, families...)
		h := someHops(next, family)
		once, e := New(h.table(family), 16, 20000)
		if e != api.OK {
			continue
		}
		each, _ := New(h.table(family), 16, 20000)
		c := someChanges(next, family, h, 0)
		right := once.Do(c) == api.OK
		for _, x := range c {
			right = right && each.Do([]api.Change{x}) == api.OK
		}
		if !right {
			continue
		}
		if many += len(c); !table.Same(once.Table(), each.Table()) || !bytes.Equal(once.Image(), each.Image()) || once.Log() != 1 || each.Log() != len(c) {
			t.Fatalf("P2206: %v of %v: at once %v, each by itself %v", c, h, once.Table(), each.Table())
		}
	}
	if many < 200 {
		t.Errorf("only %d changes", many)
	}
}

// TestP2206Great: a table of as many routes as there may be, made by changes and undone.
func TestP2206Great(t *testing.T) {
	full := fullTable(128, 7)
	l, e := New(api.Table{W: 128}, 20, api.MaxImage)
	if e != api.OK {
		t.Fatal(e)
	}
	c, e := Between(api.Table{W: 128}, full)
	if e != api.OK || l.Do(c) != api.OK || !table.Same(l.Table(), full) {
		t.Fatalf("P2206: of %d changes %d routes come", len(c), len(l.Table().Routes))
	}
	isImage(t, l, full, 20, api.MaxImage)
	if e := l.Do(c[:1]); e != api.OK || l.Log() != 2 {
		t.Fatalf("P2202: %v", e)
	}
	if l.Undo() != api.OK || l.Undo() != api.OK || len(l.Table().Routes) != 0 || len(l.Image()) != 20 || l.Undo() != api.ErrShut {
		t.Error("P2203: it is not undone")
	}
}

// TestP1WhateverData: no call panics, whatever numbers it is given; and what it tells is one of the errors that its promise names.
func TestP1WhateverData(t *testing.T) {
	next := counter()
	number := func() int {
		return one(next, math.MinInt, -1, 0, 1, 2, 3, 4, 8, 31, 32, 33, 64, 127, 128, 129, 256, 65535, 65536, 1<<22, math.MaxInt, int(next()))
	}
	route := func() api.Route {
		return api.Route{At: api.Prefix{Addr: api.Word{Hi: one(next, 0, 1<<63, 1<<32, next()), Lo: one(next, 0, 0, 1, next())}, Len: number()}, Hop: number()}
	}
	anyTable := func() api.Table {
		x := api.Table{W: one(next, 32, 128, 32, 128, number())}
		for range upTo(next, 4) {
			x.Routes = append(x.Routes, one(next, route(), set("", 1).Route, set("0", 2).Route, set("01", 3).Route, set("1", 4).Route))
		}
		return x
	}
	told := map[api.Errno]int{}
	first, _ := New(api.Table{W: 32}, 1, 100)
	live := []*Live{first}
	for range 40000 {
		l, e := New(anyTable(), one(next, 1, 2, number()), one(next, 100, number()))
		told[e]++
		if l != nil {
			live = append(live, l)
		}
		c, e := Between(anyTable(), anyTable())
		told[e]++
		l = one(next, live...)
		told[l.Do(c)]++
		var some []api.Change
		for range upTo(next, 4) {
			some = append(some, api.Change{Kind: one(next, 1, 2, number()), Route: one(next, route(), set("0", 1).Route, drop("0").Route, drop("1").Route, set("", 5).Route)})
		}
		told[l.Do(some)]++
		told[one(next, live...).Undo()]++
		l.Lookup(api.Word{Hi: next(), Lo: one(next, 0, next())})
		if e := table.Check(l.Table()); e != api.OK || l.Log() < 0 || l.Log() > 256 {
			t.Fatalf("P2204: %v: %v; Log %d", l.Table(), e, l.Log())
		}
	}
	for _, e := range []api.Errno{api.OK, api.ErrFamily, api.ErrLen, api.ErrHost, api.ErrHop, api.ErrOrder, api.ErrDepth, api.ErrSize, api.ErrKind, api.ErrArg, api.ErrNone, api.ErrShut} {
		if told[e] < 100 {
			t.Errorf("of %v only %d", e, told[e])
		}
		delete(told, e)
	}
	if len(told) > 0 {
		t.Errorf("other errors: %v", told)
	}
}

// TestP1OfNone: of an object that New has not made each call ends as well.
func TestP1OfNone(t *testing.T) {
	var l Live
	l.Do(changes(set("0", 1), drop("0")))
	l.Do(nil)
	if l.Undo() != api.ErrShut || l.Lookup(api.Word{}) != 0 || l.Log() != 0 || len(l.Table().Routes) != 0 || len(l.Image()) != 0 {
		t.Error("P1: it is a table")
	}
}

// TestP2NothingIsChanged: neither what is handed in, nor its spare room.
func TestP2NothingIsChanged(t *testing.T) {
	next := counter()
	for range 400 {
		family := one(next, families...)
		a, b := someHops(next, family), someHops(next, family)
		x, y := a.table(family), b.table(family)
		mark := api.Route{Hop: -7}
		var xAsItWas, yAsItWas func() bool
		x.Routes, xAsItWas = guarded(x.Routes, mark)
		y.Routes, yAsItWas = guarded(y.Routes, mark)
		c, _ := Between(x, y)
		c, cAsItWas := guarded(c, api.Change{Kind: -7})
		some, someAsItWas := guarded(someChanges(next, family, a, 8), api.Change{Kind: -7})
		if l, e := New(x, 16, 20000); e == api.OK {
			l.Do(some)
			l.Undo()
			l.Do(c)
			l.Do(some)
			l.Undo()
		}
		if !xAsItWas() || !yAsItWas() || !cAsItWas() || !someAsItWas() {
			t.Fatalf("P2: of %v and %v something is changed", a, b)
		}
	}
}

// TestP2NothingIsKept: what was handed in may be written over.
func TestP2NothingIsKept(t *testing.T) {
	for _, family := range families {
		h := hops{"": 1, "0": 2, "011": 3}
		tab := h.table(family)
		l, m := begun(t, family, h, 3, api.MaxImage)
		other, e := New(tab, 3, api.MaxImage)
		if e != api.OK {
			t.Fatal(e)
		}
		spoil(tab.Routes, api.Route{Hop: -7})
		isModel(t, other, m)
		for range 3 {
			c := changes(set("1", 4), drop("0"), set("00", 5), set("0", 2))
			doesTell(t, l, m, api.OK, c...)
			spoil(c, api.Change{Kind: -7})
			isModel(t, l, m)
			undoes(t, l, m)
		}
		a, b := h.table(family), hops{"0": 2, "1": 3}.table(family)
		c, _ := Between(a, b)
		spoil(a.Routes, api.Route{Hop: -7})
		spoil(b.Routes, api.Route{Hop: -7})
		if !slices.Equal(c, changes(drop(""), drop("011"), set("1", 3))) {
			t.Errorf("P2: Between: %v", c)
		}
	}
}

// TestP2AnswersAreTheCallersOwn: written over, grown, and asked again.
func TestP2AnswersAreTheCallersOwn(t *testing.T) {
	next := counter()
	for range 60 {
		family := one(next, families...)
		h := someHops(next, family)
		if n, e := fib.Size(h.table(family), 16); e != api.OK || n > 20000 {
			continue
		}
		l, m := begun(t, family, h, 16, 30000)
		spoilAll := func() {
			t.Helper()
			one, two := l.Table(), l.Table()
			_ = append(one.Routes, api.Route{Hop: -7})
			if !slices.Equal(one.Routes, two.Routes) {
				t.Fatal("P2: two tables that are told share memory")
			}
			spoil(one.Routes, api.Route{Hop: -7})
			if !table.Same(two, m.now().table(family)) {
				t.Fatal("P2: two tables that are told share memory")
			}
			spoil(two.Routes, api.Route{Hop: -7})
			image, again := l.Image(), l.Image()
			spoil(image, 0xa5)
			if bytes.Equal(image, again) {
				t.Fatal("P2: two images that are told share memory")
			}
			spoil(again, 0xa5)
			isModel(t, l, m)
		}
		for range 6 {
			spoilAll()
			does(t, l, m, someChanges(next, family, m.now(), 0))
		}
		for range 6 {
			spoilAll()
			undoes(t, l, m)
		}
		a, b := h.table(family), someHops(next, family).table(family)
		c, _ := Between(a, b)
		want := slices.Clone(c)
		d, _ := Between(a, b)
		spoil(c, api.Change{Kind: -7})
		if !slices.Equal(d, want) {
			t.Fatal("P2: two lists of changes share memory")
		}
	}
}

// TestP8TwoTables: of two live tables none sees what is done to the other one.
func TestP8TwoTables(t *testing.T) {
	next := counter()
	for _, family := range families {
		h := hops{"": 1, "0": 2, "011": 3}
		l, m := begun(t, family, h, 12, 3000)
		k, n := begun(t, family, h, 12, 3000)
		other, o := begun(t, 160-family, hops{"1": 5}, 2, 1000)
		for range 200 {
			switch upTo(next, 3) {
			case 0:
				does(t, l, m, someChanges(next, family, m.now(), 10))
			case 1:
				does(t, k, n, someChanges(next, family, n.now(), 10))
			default:
				undoes(t, l, m)
			}
			isModel(t, l, m)
			isModel(t, k, n)
			isModel(t, other, o)
		}
	}
}

// TestP3TheSameAgain: the same calls in the same order tell the same.
func TestP3TheSameAgain(t *testing.T) {
	run := func() (told []string) {
		next := counter()
		for range 30 {
			family := one(next, families...)
			h := someHops(next, family)
			l, e := New(h.table(family), 16, 20000)
			told = append(told, e.Error())
			for e == api.OK && upTo(next, 15) > 0 {
				told = append(told, l.Do(someChanges(next, family, h, 10)).Error(), string(l.Image()))
				if upTo(next, 4) == 0 {
					told = append(told, l.Undo().Error())
				}
				text, _ := table.Text(l.Table())
				told = append(told, text)
			}
		}
		return told
	}
	first := run()
	for range 3 {
		if !slices.Equal(run(), first) {
			t.Fatal("P3: the same calls tell something else")
		}
	}
	if all := strings.Join(first, ""); len(first) < 200 || !strings.Contains(all, "none") {
		t.Errorf("only %d answers", len(first))
	}
}

// TestP4NothingBeside: beside an error stands no object, and no changes.
func TestP4NothingBeside(t *testing.T) {
	if l, e := New(api.Table{W: 31}, 1, 100); l != nil || e != api.ErrFamily {
		t.Errorf("P4: %v", e)
	}
	right := hops{"0": 1}.table(32)
	for _, x := range []api.Table{{W: 31}, {W: 128}, {W: 32, Routes: []api.Route{{}}}} {
		if c, e := Between(right, x); len(c) != 0 || e == api.OK {
			t.Errorf("P4: %v, %v", c, e)
		}
	}
	// What is dropped leads to 0.
	if c, _ := Between(right, api.Table{W: 32}); len(c) != 1 || c[0] != drop("0") {
		t.Errorf("P4: %v", c)
	}
}
