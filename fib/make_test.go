package fib

import (
	"bytes"
	"math"
	"slices"
	"strconv"
	"strings"
	"testing"

	"turnpike/api"
	"turnpike/emit"
	"turnpike/image"
	"turnpike/mtrie"
	"turnpike/share"
	"turnpike/stride"
	"turnpike/table"
)

// isMade asks that Make tells just what is wanted, and no bytes beside an error.
func isMade(t *testing.T, tab api.Table, depth, most int, want []byte, e api.Errno) {
	t.Helper()
	b, got := Make(tab, depth, most)
	if got != e || !bytes.Equal(b, want) || e != api.OK && len(b) != 0 {
		t.Fatalf("P2001: Make of %d routes of %d by %d, %d: %s, %v; want %s, %v", len(tab.Routes), tab.W, depth, most, short(b), got, short(want), e)
	}
}

// isRefused asks for an error of Make, and for that of Size, which is by the greatest limit.
func isRefused(t *testing.T, tab api.Table, depth, most int, e, ofSize api.Errno) {
	t.Helper()
	isMade(t, tab, depth, most, nil, e)
	if n, got := Size(tab, depth); got != ofSize || got != api.OK && n != 0 {
		t.Fatalf("P2001: Size of %d routes of %d by %d: %d, %v; want %v", len(tab.Routes), tab.W, depth, n, got, ofSize)
	}
}

// isSized asks that a table has this image by limits that are enough, and none by those below its length.
func isSized(t *testing.T, tab api.Table, depth int, want []byte) {
	t.Helper()
	for _, most := range append(enough, len(want), len(want)+1) {
		isMade(t, tab, depth, most, want, api.OK)
	}
	for _, most := range []int{len(want) - 1, len(want) - 4, 20, 19, 17, 16, 15, 1, 0, -1, -16, -17, math.MinInt + 15, math.MinInt} {
		if most < len(want) {
			isMade(t, tab, depth, most, nil, api.ErrSize)
		}
	}
	if n, e := Size(tab, depth); n != len(want) || e != api.OK {
		t.Fatalf("P2001: Size of %d routes of %d by %d: %d, %v; want %d", len(tab.Routes), tab.W, depth, n, e, len(want))
	}
}

func TestP2001Examples(t *testing.T) {
	// 1: the sum was told by another program.
	want := codeOf("#54504b31 #20010003 #00000005 #6dcca887 x1 i1:c0000000 r5 r0")
	if len(want) != 36 {
		t.Fatalf("%d bytes", len(want))
	}
	tab := hops{"0": 5}.table(32)
	isMade(t, tab, 1, 100, want, api.OK)
	isSized(t, tab, 1, want)
	isRefused(t, tab, 1, 35, api.ErrSize, api.OK)
	isRefused(t, tab, 0, 100, api.ErrDepth, api.ErrDepth)
	isRefused(t, tab, 33, 100, api.ErrDepth, api.ErrDepth)
	// 2.
	for _, family := range families {
		isSized(t, api.Table{W: family}, 1, framed(family, 0, 1, codeOf("r0")))
	}
}

func TestP2001ByHand(t *testing.T) {
	for _, x := range []struct {
		h           hops
		depth, deep int
		code        string
	}{
		{hops{"": 9}, 1, 0, "r9"}, {hops{"": 65535}, 32, 0, "r65535"},
		{hops{"1": 5}, 1, 1, "x1 i1:c0000000 r0 r5"}, {hops{"": 9, "1": 5}, 7, 1, "x1 i1:c0000000 r9 r5"},
		// All go to one next hop, and nodes are there all the same.
		{hops{"0": 5, "1": 5}, 1, 1, "x1 i1:80000000 r5"}, {hops{"": 5, "00": 5}, 1, 1, "x2 i2:80000000 r5"},
		// Example 1 of chapter 10.
		{hops{"00": 1, "100": 2}, 1, 1, "x3 i3:ac000000 r1 r0 r2 r0"}, {hops{"00": 1, "100": 2}, 2, 2, "x2 i2:f0000000 r1 r0 j2 r0 x1 i1:c0000000 r2 r0"}, {hops{"00": 1, "100": 2}, 3, 2, "x2 i2:f0000000 r1 r0 j2 r0 x1 i1:c0000000 r2 r0"},
		// Two parts that are alike are laid once; of two that are not the one that the first slots lead to stands ahead.
		{hops{"000": 1, "100": 1}, 2, 2, "x2 i2:f0000000 j4 r0 j2 r0 x1 i1:c0000000 r1 r0"}, {hops{"000": 1, "100": 2}, 2, 2, "x2 i2:f0000000 j4 r0 j7 r0 x1 i1:c0000000 r1 r0 x1 i1:c0000000 r2 r0"},
	} {
		isSized(t, x.h.table(32), x.depth, framed(32, x.deep, max(1, 3*x.deep), codeOf(x.code)))
	}
}

// TestP2001AsTheChapterSays: against images that are told by the chapters' words, without the layers below.
func TestP2001AsTheChapterSays(t *testing.T) {
	made, long := 0, map[int]int{}
	for _, x := range samples(3000) {
		want, ok := imageBy(x.family, x.h, x.depth)
		if !ok {
			continue
		}
		made++
		long[len(want)/100]++
		tab := x.h.table(x.family)
		isMade(t, tab, x.depth, math.MaxInt, want, api.OK)
		isMade(t, tab, x.depth, len(want), want, api.OK)
		isMade(t, tab, x.depth, len(want)-1, nil, api.ErrSize)
		if n, e := Size(tab, x.depth); n != len(want) || e != api.OK {
			t.Fatalf("P2001: Size of %v by %d: %d, %v; want %d", x.h, x.depth, n, e, len(want))
		}
	}
	if made < 1800 || len(long) < 15 {
		t.Errorf("only %d images are held against others, of %d lengths", made, len(long))
	}
}

// byLayers is the image by the very words of P2001.
func byLayers(t *testing.T, tab api.Table, depth int) ([]byte, api.Errno) {
	t.Helper()
	right := func(e api.Errno) {
		t.Helper()
		if e != api.OK {
			t.Fatalf("%d routes of %d by %d: %v", len(tab.Routes), tab.W, depth, e)
		}
	}
	plan, e := stride.Best(tab, depth)
	right(e)
	for _, s := range plan {
		if s.Bits > 24 {
			return nil, api.ErrSize
		}
	}
	nodes, e := mtrie.Build(tab, plan)
	right(e)
	nodes, e = share.Share(tab.W, nodes)
	right(e)
	deep, e := mtrie.Check(tab.W, nodes)
	right(e)
	_, words, e := emit.Places(tab.W, nodes)
	right(e)
	if 16+4*words > api.MaxImage {
		return nil, api.ErrSize
	}
	code, e := emit.Code(tab.W, nodes, 4*words)
	right(e)
	h := api.Header{W: tab.W, Depth: deep, Steps: 3 * deep, Words: words}
	if deep == 0 {
		h.Steps = 1
	}
	b, e := image.Pack(h, code)
	right(e)
	return b, api.OK
}

// greatTable is one of many routes.
func greatTable(t *testing.T, next func() uint64, family, routes int) api.Table {
	t.Helper()
	var l []api.Route
	for range routes {
		size := 4 + upTo(next, one(next, 8, 21, 25))
		if family == 128 {
			size = 8 + upTo(next, 57)
		}
		l = append(l, api.Route{At: api.Prefix{Addr: api.Word{Hi: next() >> (64 - size) << (64 - size)}, Len: size}, Hop: 1 + upTo(next, one(next, 2, 65535))})
	}
	tab, e := table.Canon(family, l)
	if e != api.OK {
		t.Fatal(e)
	}
	return tab
}

func TestP2001ByTheLayers(t *testing.T) {
	next := counter()
	seen := map[api.Errno]int{}
	for range 30 {
		family := one(next, families...)
		tab := greatTable(t, next, family, 1+upTo(next, 1500))
		depth := one(next, 1, 2, 3, 4, 5, 6, 8, 12, 16, family)
		want, e := byLayers(t, tab, depth)
		seen[e]++
		if e == api.OK {
			isMade(t, tab, depth, len(want), want, api.OK)
			isMade(t, tab, depth, math.MaxInt, want, api.OK)
			isRefused(t, tab, depth, len(want)-1, api.ErrSize, api.OK)
		} else {
			isRefused(t, tab, depth, math.MaxInt, e, e)
		}
	}
	if seen[api.OK] < 12 || seen[api.ErrSize] < 4 {
		t.Errorf("the tables: %v", seen)
	}
}

// wrongTables are tables that are not right, and what table.Check tells of them.
func wrongTables() map[string]struct {
	t api.Table
	e api.Errno
} {
	type wrong = struct {
		t api.Table
		e api.Errno
	}
	m := map[string]wrong{}
	add := func(name string, e api.Errno, family int, l ...api.Route) {
		m[name] = wrong{api.Table{W: family, Routes: l}, e}
	}
	at := func(bits string, hop int) api.Route {
		return api.Route{At: api.Prefix{Addr: wordOf(bits), Len: len(bits)}, Hop: hop}
	}
	for _, family := range noFamilies {
		add("family "+strconv.Itoa(family), api.ErrFamily, family)
		add("family and route "+strconv.Itoa(family), api.ErrFamily, family, at("0", 1))
		add("family and wrong route "+strconv.Itoa(family), api.ErrFamily, family, at("0", 0))
	}
	for _, family := range families {
		f := strconv.Itoa(family) + ": "
		for _, size := range []int{math.MinInt, -1, family + 1, 129, math.MaxInt} {
			add(f+"len "+strconv.Itoa(size), api.ErrLen, family, api.Route{At: api.Prefix{Len: size}, Hop: 1})
			add(f+"len, host and hop "+strconv.Itoa(size), api.ErrLen, family, at("0", 1), api.Route{At: api.Prefix{Addr: api.Word{Lo: 1}, Len: size}})
		}
		for _, hop := range []int{math.MinInt, -1, 0, 65536, 65537, math.MaxInt} {
			add(f+"hop "+strconv.Itoa(hop), api.ErrHop, family, at("0", hop))
			add(f+"hop and order "+strconv.Itoa(hop), api.ErrHop, family, at("1", 1), at("0", 1), at("01", hop))
		}
		add(f+"host", api.ErrHost, family, api.Route{At: api.Prefix{Addr: wordOf("01"), Len: 1}, Hop: 1})
		add(f+"host and hop", api.ErrHost, family, at("0", 1), api.Route{At: api.Prefix{Addr: api.Word{Hi: 1 << 32}, Len: 31}})
		add(f+"hop ahead of host", api.ErrHop, family, at("0", 0), api.Route{At: api.Prefix{Addr: wordOf("01"), Len: 1}, Hop: 1})
		add(f+"twice", api.ErrOrder, family, at("0", 1), at("0", 2))
		add(f+"out of order", api.ErrOrder, family, at("1", 1), at("0", 2))
		add(f+"the longer one first", api.ErrOrder, family, at("00", 1), at("0", 2))
		add(f+"the last two", api.ErrOrder, family, at("", 1), at("0", 1), at("01", 1), at("001", 1))
	}
	add("a bit behind the family's", api.ErrHost, 32, api.Route{At: api.Prefix{Addr: api.Word{Lo: 1}, Len: 32}, Hop: 1})
	return m
}

// TestP2001WrongTables: table.Check's error comes ahead of all others.
func TestP2001WrongTables(t *testing.T) {
	for name, x := range wrongTables() {
		if e := table.Check(x.t); e != x.e {
			t.Fatalf("%s: table.Check tells %v, want %v", name, e, x.e)
		}
		for _, depth := range []int{math.MinInt, -1, 0, 1, 2, 32, 33, 128, 129, math.MaxInt} {
			for _, most := range []int{math.MinInt, -1, 0, 19, 100, math.MaxInt} {
				isRefused(t, x.t, depth, most, x.e, x.e)
			}
		}
	}
}

// TestP2001Limit: just as many routes as there may be, and one more.
func TestP2001Limit(t *testing.T) {
	var l []api.Route
	for v := range api.MaxEntries + 1 {
		l = append(l, api.Route{At: api.Prefix{Addr: api.Word{Hi: uint64(v) << (64 - 21)}, Len: 21}, Hop: 1})
	}
	for _, depth := range []int{0, 1, 33} {
		isRefused(t, api.Table{W: 32, Routes: l}, depth, 0, api.ErrLimit, api.ErrLimit)
	}
	l[7].Hop = 0
	isRefused(t, api.Table{W: 128, Routes: l}, 1, api.MaxImage, api.ErrLimit, api.ErrLimit)
	l[7].Hop = 1
	// The first half of the slots leads to 1, the second one nowhere.
	m := append([]uint32{1 << 31}, make([]uint32, 1<<21/32-1)...)
	m[1<<20/32] = 1 << 31
	code := append(bytesOf(append([]uint32{1<<24 | 21, 2<<24 | 21}, m...)), codeOf("r1 r0")...)
	isMade(t, api.Table{W: 32, Routes: l[:api.MaxEntries]}, 1, api.MaxImage, framed(32, 1, 3, code), api.OK)
}

// TestP2001Depths: the bounds of both families, ahead of whatever is too long.
func TestP2001Depths(t *testing.T) {
	for _, family := range families {
		for _, h := range edgeHops(family) {
			tab := h.table(family)
			for _, depth := range []int{math.MinInt, math.MinInt + 1, -family, -1, 0, family + 1, family + 2, 2 * family, 1<<32 + 1, math.MaxInt} {
				for _, most := range []int{math.MinInt, -1, 0, 20, 100, math.MaxInt} {
					isRefused(t, tab, depth, most, api.ErrDepth, api.ErrDepth)
				}
			}
			for depth := 1; depth <= family; depth++ {
				if b, e := Make(tab, depth, math.MaxInt); e != api.OK && e != api.ErrSize {
					t.Fatalf("P2001: %v by %d: %s, %v", h, depth, short(b), e)
				} else if e == api.OK && (int(b[4]) != family || int(b[5]) > depth) {
					t.Fatalf("P2001: %v by %d: %s", h, depth, short(b))
				}
			}
		}
	}
	isRefused(t, hops{"0": 1}.table(32), 128, 100, api.ErrDepth, api.ErrDepth)
}

// TestP2001Bits: a node of just as many bits as may be laid, and of one more.
func TestP2001Bits(t *testing.T) {
	for _, family := range families {
		for size := 1; size <= 24; size++ {
			code := append(bytesOf(append([]uint32{1<<24 | uint32(size), 2<<24 | uint32(size), 3 << 30}, make([]uint32, mapWords(size)-1)...)), codeOf("r5 r0")...)
			isMade(t, hops{strings.Repeat("0", size): 5}.table(family), 1, math.MaxInt, framed(family, 1, 3, code), api.OK)
		}
		for _, size := range []int{25, 26, 31, 32, family - 1, family} {
			tab := hops{strings.Repeat("0", size): 5}.table(family)
			for _, most := range append(enough, 0, 100) {
				isRefused(t, tab, 1, most, api.ErrSize, api.ErrSize)
			}
		}
	}
	// By two nodes: of 23 and 24 bits; of 24 and 24, which are too long together; of 24 and 25.
	for size, want := range map[int]int{47: 16 + 4*(2+1<<18+2+2+1<<19+2), 48: 0, 49: 0} {
		tab := hops{strings.Repeat("1", size): 5}.table(128)
		if want == 0 {
			isRefused(t, tab, 2, math.MaxInt, api.ErrSize, api.ErrSize)
			continue
		}
		b, e := Make(tab, 2, want)
		if n, ofSize := Size(tab, 2); e != api.OK || len(b) != want || n != want || ofSize != api.OK {
			t.Errorf("P2001: a route of %d bits by 2: %s, %v", size, short(b), e)
		}
		isRefused(t, tab, 2, want-1, api.ErrSize, api.OK)
	}
}

// fullTable is one whose image by depth 1 is one node of 20 bits with so many runs.
func fullTable(family, runs int) api.Table {
	tab := api.Table{W: family}
	for v := range runs - 1 {
		tab.Routes = append(tab.Routes, api.Route{At: api.Prefix{Addr: api.Word{Hi: uint64(v) << (64 - 20)}, Len: 20}, Hop: 1 + v%2})
	}
	return tab
}

// mostRuns is how many of them an image has that is just as long as it may be.
const mostRuns = (api.MaxImage-16)/4 - 2 - 1<<15

// TestP2001Longest: an image of just MaxImage bytes, and one a word longer.
func TestP2001Longest(t *testing.T) {
	tab := fullTable(32, mostRuns)
	b, e := Make(tab, 1, math.MaxInt)
	if e != api.OK || len(b) != api.MaxImage || Load(b) != nil {
		t.Fatalf("P2001: %s, %v", short(b), e)
	}
	isMade(t, tab, 1, api.MaxImage, b, api.OK)
	isRefused(t, tab, 1, api.MaxImage-1, api.ErrSize, api.OK)
	if n, e := Size(tab, 1); n != api.MaxImage || e != api.OK {
		t.Errorf("P2001: Size: %d, %v", n, e)
	}
	isRefused(t, fullTable(32, mostRuns+1), 1, math.MaxInt, api.ErrSize, api.ErrSize)
}

// TestP2001FirstError: of several things that are wrong the table comes first, then the depth, then what is too long.
func TestP2001FirstError(t *testing.T) {
	wide := hops{strings.Repeat("0", 32): 5}
	wrong := wide.table(32)
	wrong.Routes[0].Hop = 0
	for _, x := range []struct {
		t           api.Table
		depth, most int
		e, ofSize   api.Errno
	}{
		{wrong, 0, -1, api.ErrHop, api.ErrHop}, {wrong, 1, -1, api.ErrHop, api.ErrHop}, {api.Table{W: 5, Routes: wrong.Routes}, 0, -1, api.ErrFamily, api.ErrFamily},
		{wide.table(32), 0, -1, api.ErrDepth, api.ErrDepth}, {wide.table(32), 33, -1, api.ErrDepth, api.ErrDepth}, {wide.table(128), 33, -1, api.ErrSize, api.OK},
		{wide.table(32), 1, -1, api.ErrSize, api.ErrSize}, {wide.table(32), 1, math.MaxInt, api.ErrSize, api.ErrSize}, {wide.table(32), 2, 19, api.ErrSize, api.OK}, {wide.table(32), 4, 19, api.ErrSize, api.OK},
		{api.Table{W: 32}, 0, 19, api.ErrDepth, api.ErrDepth}, {api.Table{W: 32}, 1, 19, api.ErrSize, api.OK}, {api.Table{}, 0, 19, api.ErrFamily, api.ErrFamily},
	} {
		isRefused(t, x.t, x.depth, x.most, x.e, x.ofSize)
	}
}

// TestP2001NoRoutes: no list, and an empty one; by every depth.
func TestP2001NoRoutes(t *testing.T) {
	for _, family := range families {
		want := framed(family, 0, 1, codeOf("r0"))
		for _, l := range [][]api.Route{nil, {}, make([]api.Route, 0, 5)} {
			for depth := 1; depth <= family; depth++ {
				isMade(t, api.Table{W: family, Routes: l}, depth, 20, want, api.OK)
			}
			isSized(t, api.Table{W: family, Routes: l}, 1, want)
		}
	}
}

// TestT5Words: they are at most twice what the plan costs, and two a node; no plan of the table that is at hand costs less.
func TestT5Words(t *testing.T) {
	asked := 0
	l, all := images(t, 1500)
	for k, x := range l {
		tab := x.h.table(x.family)
		plan, e := stride.Best(tab, x.depth)
		if e != api.OK {
			t.Fatal(e)
		}
		spent, depth, e := stride.Check(tab, plan)
		if words := len(all[k])/4 - 4; e != api.OK || depth > x.depth || words > 2*int(spent[2])+2*max(1, len(plan)) {
			t.Fatalf("T5: %v by %d: %d words, cost %v, %d nodes", x.h, x.depth, words, spent, len(plan))
		}
		for bits := 1; bits <= min(x.family, 20); bits++ {
			even, e := stride.Even(tab, bits)
			if e != api.OK {
				t.Fatal(e)
			}
			if other, deep, _ := stride.Check(tab, even); deep <= x.depth {
				asked++
				if slices.Compare(other[:], spent[:]) < 0 {
					t.Fatalf("T5: %v by %d: %v, and by %d bits a step %v", x.h, x.depth, spent, bits, other)
				}
			}
		}
	}
	if asked < 3000 {
		t.Errorf("only %d plans are held against others", asked)
	}
}
