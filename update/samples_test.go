package update

import (
	"bytes"
	"maps"
	"math"
	"slices"
	"strconv"
	"strings"
	"testing"

	"turnpike/api"
	"turnpike/fib"
	"turnpike/table"
)

var (
	families = []int{32, 128}
	// noFamilies are numbers some of which end in the bits of a family.
	noFamilies = []int{math.MinInt, math.MinInt + 32, -128, -32, -1, 0, 1, 24, 31, 33, 64, 127, 129, 160, 255, 256, 256 + 32, 256 + 128, 1<<16 + 32, 1<<32 + 32, 1<<32 + 128, math.MaxInt}
	noHops     = []int{math.MinInt, -65535, -1, 0, 65536, 65537, 1 << 17, 1<<32 + 1, math.MaxInt}
	noKinds    = []int{math.MinInt, -2, -1, 0, 3, 4, 256 + 1, 256 + 2, 1<<32 + 1, 1<<32 + 2, math.MaxInt}
)

// counter makes numbers without a pattern, always the same ones.
func counter() func() uint64 {
	x := uint64(0x9e3779b97f4a7c15)
	return func() uint64 {
		x ^= x << 13
		x ^= x >> 7
		x ^= x << 17
		return x
	}
}

// upTo is a number from 0 on below most, without a pattern.
func upTo(next func() uint64, most int) int {
	return int(next() >> 11 % uint64(most))
}

// one is one of a list, without a pattern.
func one[T any](next func() uint64, l ...T) T {
	return l[upTo(next, len(l))]
}

// wordOf is the word whose first bits are those of a text of 0 and 1.
func wordOf(bits string) (w api.Word) {
	for i, c := range bits {
		if c == '1' && i < 64 {
			w.Hi |= 1 << (63 - i)
		} else if c == '1' {
			w.Lo |= 1 << (127 - i)
		}
	}
	return w
}

// bitsOf is the text of a number of so many bits.
func bitsOf(n, size int) string {
	s := strconv.FormatInt(int64(n), 2)
	if size == 0 {
		return ""
	}
	return strings.Repeat("0", size-len(s)) + s
}

// at is the prefix of a text of bits.
func at(bits string) api.Prefix {
	return api.Prefix{Addr: wordOf(bits), Len: len(bits)}
}

func set(bits string, hop int) api.Change {
	return api.Change{Kind: api.CSet, Route: api.Route{At: at(bits), Hop: hop}}
}

func drop(bits string) api.Change {
	return api.Change{Kind: api.CDrop, Route: api.Route{At: at(bits)}}
}

func changes(l ...api.Change) []api.Change {
	return l
}

// dotted is the text of bits of an IPv4 prefix: dotted(10, 1) is 10.1.0.0/16.
func dotted(parts ...int) string {
	s := ""
	for _, n := range parts {
		s += bitsOf(n, 8)
	}
	return s
}

// hops are a table: next hops by prefixes, which are texts of bits.
type hops map[string]int

// table is the right table of them: texts of bits are in the order of their prefixes.
func (h hops) table(family int) api.Table {
	t := api.Table{W: family}
	for _, s := range slices.Sorted(maps.Keys(h)) {
		t.Routes = append(t.Routes, api.Route{At: at(s), Hop: h[s]})
	}
	return t
}

// of is the next hop of a text of bits by the words of DOC.md: that of the longest one with which it begins.
func (h hops) of(s string) int {
	for n := len(s); n >= 0; n-- {
		if hop, ok := h[s[:n]]; ok {
			return hop
		}
	}
	return 0
}

// bitsBy is a prefix as a text of bits, or its error by the table of DOC.md.
func bitsBy(family int, p api.Prefix) (string, api.Errno) {
	if p.Len < 0 || p.Len > family {
		return "", api.ErrLen
	}
	s := ""
	for i := range 128 {
		bit := p.Addr.Hi >> (63 - i%64) & 1
		if i >= 64 {
			bit = p.Addr.Lo >> (127 - i) & 1
		}
		if i < p.Len {
			s += strconv.Itoa(int(bit))
		} else if bit == 1 {
			return "", api.ErrHost
		}
	}
	return s, api.OK
}

// doneBy is a table behind changes by the words of P2202, but for ErrLimit and ErrSize.
func doneBy(family int, h hops, l []api.Change) (hops, api.Errno) {
	h = maps.Clone(h)
	if h == nil {
		h = hops{}
	}
	for _, c := range l {
		if c.Kind != 1 && c.Kind != 2 {
			return nil, api.ErrKind
		}
		s, e := bitsBy(family, c.Route.At)
		hop, ok := h[s]
		switch {
		case e != api.OK:
			return nil, e
		case c.Kind == 1 && (c.Route.Hop < 1 || c.Route.Hop > 65535):
			return nil, api.ErrHop
		case c.Kind == 2 && c.Route.Hop != 0:
			return nil, api.ErrArg
		case c.Kind == 2 && (!ok || hop == 0):
			return nil, api.ErrNone
		case c.Kind == 1:
			h[s] = c.Route.Hop
		default:
			delete(h, s)
		}
	}
	return h, api.OK
}

// betweenBy is the changes between two tables by the words of P2205.
func betweenBy(a, b hops) []api.Change {
	either := maps.Clone(a)
	maps.Copy(either, b)
	var l []api.Change
	for _, s := range slices.Sorted(maps.Keys(either)) {
		switch was, is := a[s], b[s]; {
		case is == 0:
			l = append(l, drop(s))
		case was != is:
			l = append(l, set(s, is))
		}
	}
	return l
}

// model is a live table by the chapter's words: what it was from the beginning on, and how often it can be undone.
type model struct {
	family, depth, most int
	all                 []hops
	log                 int
}

func (m *model) now() hops {
	return m.all[len(m.all)-1]
}

func (m *model) do(l []api.Change) api.Errno {
	h, e := doneBy(m.family, m.now(), l)
	if e != api.OK {
		return e
	}
	if len(h) > 1<<20 {
		return api.ErrLimit
	}
	if _, e := fib.Make(h.table(m.family), m.depth, m.most); e != api.OK {
		return e
	}
	m.all = append(m.all, h)
	m.log = min(m.log+1, 256)
	return api.OK
}

func (m *model) undo() api.Errno {
	if m.log == 0 {
		return api.ErrShut
	}
	m.all = m.all[:len(m.all)-1]
	m.log--
	return api.OK
}

// begun is a live table that is there, and its model.
func begun(t *testing.T, family int, h hops, depth, most int) (*Live, *model) {
	t.Helper()
	l, e := New(h.table(family), depth, most)
	if e != api.OK || l == nil {
		t.Fatalf("P2201: New of %v by %d, %d: %v", h, depth, most, e)
	}
	m := &model{family: family, depth: depth, most: most, all: []hops{h}}
	isModel(t, l, m)
	return l, m
}

// edgesOf are the first and the last address of each prefix, and of all.
func edgesOf(family int, h hops) []string {
	l := []string{strings.Repeat("0", family), strings.Repeat("1", family)}
	for _, s := range slices.Sorted(maps.Keys(h)) {
		l = append(l, s+strings.Repeat("0", family-len(s)), s+strings.Repeat("1", family-len(s)))
	}
	return l
}

// isModel asks that a live table is in all that it tells what its model is.
func isModel(t *testing.T, l *Live, m *model) {
	t.Helper()
	h := m.now()
	want := h.table(m.family)
	if got := l.Table(); !table.Same(got, want) {
		t.Fatalf("P2204: Table: %v; want %v", got, want)
	}
	isImage(t, l, want, m.depth, m.most)
	if n := l.Log(); n != m.log {
		t.Fatalf("P2203: Log of %v: %d; want %d", want, n, m.log)
	}
	some := edgesOf(m.family, h)
	for _, s := range some[:min(len(some), 12)] {
		if hop := l.Lookup(wordOf(s)); hop != h.of(s) {
			t.Fatalf("P2204: Lookup of %s in %v: %d; want %d", s, want, hop, h.of(s))
		}
	}
}

// isImage asks that the image is fib.Make's of a table.
func isImage(t *testing.T, l *Live, want api.Table, depth, most int) {
	t.Helper()
	b, e := fib.Make(want, depth, most)
	if got := l.Image(); e != api.OK || !bytes.Equal(got, b) {
		t.Fatalf("P2206: the image of %d routes by %d, %d: %x; want %x, %v", len(want.Routes), depth, most, got[:min(len(got), 100)], b[:min(len(b), 100)], e)
	}
}

// does makes changes in a live table and in its model, and asks that both tell the same of it.
func does(t *testing.T, l *Live, m *model, c []api.Change) api.Errno {
	t.Helper()
	want := m.do(c)
	if got := l.Do(c); got != want {
		t.Fatalf("P2202: Do(%v) of %v: %v; want %v", c, m.now(), got, want)
	}
	isModel(t, l, m)
	return want
}

// doesTell asks besides for the error itself.
func doesTell(t *testing.T, l *Live, m *model, e api.Errno, c ...api.Change) {
	t.Helper()
	if got := does(t, l, m, c); got != e {
		t.Fatalf("P2202: Do(%v) of %v: %v; want %v", c, m.now(), got, e)
	}
}

// undoes takes the last changes back in both.
func undoes(t *testing.T, l *Live, m *model) api.Errno {
	t.Helper()
	want := m.undo()
	if got := l.Undo(); got != want {
		t.Fatalf("P2203: Undo: %v; want %v", got, want)
	}
	isModel(t, l, m)
	return want
}

// someBits is a prefix without a pattern: of few of each length there are, so that many are met again.
func someBits(next func() uint64, family int) string {
	size := one(next, 0, 1, 2, 3, 3, 4, 8, 9, 12, 17, 31, 32, min(family, 64), min(family, 65), family)
	s := one(next, strings.Repeat("0", family), strings.Repeat("1", family), strings.Repeat("01", family/2))
	s = s[:upTo(next, 1+min(size, 5))] + bitsOf(upTo(next, 8), 3) + s
	return s[:size]
}

// someHops is a table without a pattern.
func someHops(next func() uint64, family int) hops {
	h := hops{}
	for range upTo(next, one(next, 1, 3, 12, 30)) {
		h[someBits(next, family)] = 1 + upTo(next, one(next, 2, 65535))
	}
	return h
}

// someChange is a right one of a table mostly, if wrong is 0; else one of so many may be wrong.
func someChange(next func() uint64, family int, h hops, wrong int) api.Change {
	s := someBits(next, family)
	if len(h) > 0 && upTo(next, 2) == 0 {
		s = one(next, slices.Sorted(maps.Keys(h))...)
	}
	c := set(s, 1+upTo(next, one(next, 2, 65535)))
	if _, ok := h[s]; ok && upTo(next, 2) == 0 {
		c = drop(s)
	}
	if wrong == 0 || upTo(next, wrong) > 0 {
		return c
	}
	switch upTo(next, 6) {
	case 0:
		c.Kind = one(next, noKinds...)
	case 1:
		c.Route.At.Len = one(next, math.MinInt, -1, c.Route.At.Len-1, family+1, math.MaxInt)
	case 2:
		c.Route.At.Addr.Lo |= 1 << upTo(next, 64)
	case 3:
		c.Route.Hop = one(next, noHops...)
	case 4:
		c.Route.Hop = 1
	case 5:
		c = drop(someBits(next, family))
	}
	return c
}

// someChanges are some, each of what the table is behind the ones ahead of it.
func someChanges(next func() uint64, family int, h hops, wrong int) []api.Change {
	var l []api.Change
	for range upTo(next, one(next, 2, 4, 9)) {
		c := someChange(next, family, h, wrong)
		l = append(l, c)
		if behind, e := doneBy(family, h, []api.Change{c}); e == api.OK {
			h = behind
		}
	}
	return l
}

// guarded is a copy of a list with room behind it, and a function that tells whether both are as they were.
func guarded[T comparable](l []T, behind T) (handed []T, asItWas func() bool) {
	all := append(slices.Clone(l), slices.Repeat([]T{behind}, 8)...)
	was := slices.Clone(all)
	return all[:len(l)], func() bool { return slices.Equal(all, was) }
}

// spoil writes over all of a list, its spare room too.
func spoil[T any](l []T, mark T) {
	l = l[:cap(l)]
	for i := range l {
		l[i] = mark
	}
}

// fullTable has all prefixes of 20 bits: MaxEntries. An image of them is short, as all lead to one next hop.
func fullTable(family, hop int) api.Table {
	t := api.Table{W: family}
	for v := range 1 << 20 {
		t.Routes = append(t.Routes, api.Route{At: api.Prefix{Addr: api.Word{Hi: uint64(v) << 44}, Len: 20}, Hop: hop})
	}
	return t
}

func TestSamplesAreSound(t *testing.T) {
	if w := wordOf("1" + strings.Repeat("0", 63) + "01"); w != (api.Word{Hi: 1 << 63, Lo: 1 << 62}) {
		t.Errorf("a word of bits: %x", w)
	}
	if p := at(dotted(10, 1)); p != (api.Prefix{Addr: api.Word{Hi: 10<<56 | 1<<48}, Len: 16}) {
		t.Errorf("a prefix: %v", p)
	}
	for _, s := range []string{"", "0", "1", "01", strings.Repeat("1", 64), strings.Repeat("10", 64)} {
		if got, e := bitsBy(128, at(s)); got != s || e != api.OK {
			t.Errorf("%s is read as %s, %v", s, got, e)
		}
	}
	if _, e := bitsBy(32, api.Prefix{Addr: api.Word{Lo: 1}, Len: 32}); e != api.ErrHost {
		t.Errorf("a bit behind the family's: %v", e)
	}
	h := hops{"": 9, "00": 1, "0011": 2}
	if h.of("0011") != 2 || h.of("0010") != 1 || h.of("01") != 9 || (hops{"1": 1}).of("0") != 0 {
		t.Error("a next hop is another one")
	}
	if l := betweenBy(hops{"0": 1, "1": 2, "11": 3}, hops{"": 1, "1": 2, "11": 4}); !slices.Equal(l, changes(set("", 1), drop("0"), set("11", 4))) {
		t.Errorf("between: %v", l)
	}
	if table.Check(fullTable(32, 1)) != api.OK {
		t.Error("a full table that is none")
	}
	next := counter()
	told, sizes := map[api.Errno]int{}, map[int]int{}
	for range 5000 {
		family := one(next, families...)
		h := someHops(next, family)
		sizes[len(h)]++
		if e := table.Check(h.table(family)); e != api.OK {
			t.Fatalf("%v: %v", h, e)
		}
		if _, e := doneBy(family, h, someChanges(next, family, h, 0)); e != api.OK {
			t.Fatalf("right changes of %v: %v", h, e)
		}
		_, e := doneBy(family, h, someChanges(next, family, h, 10))
		told[e]++
	}
	for _, e := range []api.Errno{api.OK, api.ErrKind, api.ErrLen, api.ErrHost, api.ErrHop, api.ErrArg, api.ErrNone} {
		if told[e] < 30 {
			t.Errorf("of %v only %d", e, told[e])
		}
	}
	if len(sizes) < 20 || sizes[0] < 100 {
		t.Errorf("the sizes: %v", sizes)
	}
}
