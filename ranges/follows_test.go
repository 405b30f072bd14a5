package ranges

import (
	"slices"
	"testing"

	"turnpike/addr"
	"turnpike/api"
	"turnpike/prefix"
	"turnpike/word"
)

// apart asks that no two lie within one another, and that no two are siblings.
func apart(t *testing.T, l []api.Prefix) {
	t.Helper()
	at := map[api.Prefix]int{}
	for i, p := range l {
		at[p] = i
	}
	for i, p := range l {
		if other, ok := prefix.Sibling(p); ok {
			if _, there := at[other]; there {
				t.Fatalf("the siblings %v and %v are there", p, other)
			}
		}
		for k, q := range l {
			if i != k && prefix.Within(p, q) {
				t.Fatalf("%v lies within %v", p, q)
			}
		}
	}
}

func TestP405Cover(t *testing.T) {
	for _, family := range families {
		ends := someEnds(family)
		for i, first := range ends {
			for _, last := range ends[i:] {
				l, e := Cover(family, ofBits(first), ofBits(last))
				if e != api.OK || len(l) < 1 || len(l) > 2*family-2 {
					t.Fatalf("Cover(%d, %s, %s): %d prefixes, %v", family, first, last, len(l), e)
				}
				apart(t, l)
				hasJust(t, family, l, ofBits(first), ofBits(last))
				rows, e := Rows(family, l)
				if e != api.OK || !slices.Equal(rows, []api.Seg{{First: ofBits(first), Last: ofBits(last), Hop: 1}}) {
					t.Fatalf("Rows of Cover(%d, %s, %s) = %v, %v", family, first, last, rows, e)
				}
				if again, e := Merge(family, l); e != api.OK || !slices.Equal(again, l) {
					t.Fatalf("Merge of Cover(%d, %s, %s) = %v, %v", family, first, last, again, e)
				}
			}
		}
	}
}

// hasJust asks that each begins right behind the one ahead, and that they reach from first to last.
func hasJust(t *testing.T, family int, l []api.Prefix, first, last api.Word) {
	t.Helper()
	want, ok := first, true
	for _, p := range l {
		if !ok || prefix.First(p) != want || prefix.Check(family, p) != api.OK {
			t.Fatalf("%v in the range from %x to %x", p, first, last)
		}
		want, ok = addr.Next(family, prefix.Last(family, p))
	}
	if prefix.Last(family, l[len(l)-1]) != last {
		t.Fatalf("%v does not end at %x", l, last)
	}
}

func TestP405CoverOfOnePrefixIsOne(t *testing.T) {
	for _, family := range families {
		for _, s := range someEnds(family) {
			for n := range family + 1 {
				if l, e := Cover(family, firstOf(family, s[:n]), lastOf(family, s[:n])); e != api.OK || len(l) != 1 {
					t.Fatalf("Cover of %s = %v, %v", s[:n], l, e)
				}
			}
		}
	}
}

func TestP405TheMostPrefixes(t *testing.T) {
	for _, family := range families {
		last, _ := addr.Last(family)
		one, _ := addr.Next(family, api.Word{})
		lastButOne, _ := addr.Prev(family, last)
		if l, e := Cover(family, one, lastButOne); e != api.OK || len(l) != 2*family-2 {
			t.Errorf("%d prefixes, %v", len(l), e)
		}
	}
}

func TestP405Merge(t *testing.T) {
	for _, family := range families {
		for _, texts := range someLists(family) {
			l := allMade(texts)
			few, e := Merge(family, l)
			if e != api.OK || len(few) > len(l) || !slices.IsSortedFunc(few, prefix.Cmp) {
				t.Fatalf("Merge(%d, %v) = %v, %v", family, l, few, e)
			}
			apart(t, few)
			if again, e := Merge(family, few); e != api.OK || !slices.Equal(again, few) {
				t.Fatalf("Merge of Merge(%d, %v) = %v, %v", family, l, again, e)
			}
			if got := coversOfRows(t, family, l); !slices.Equal(got, few) {
				t.Fatalf("the Covers of Rows(%d, %v) = %v, Merge = %v", family, l, got, few)
			}
			haveAlike(t, family, l, few)
		}
	}
}

// coversOfRows tells the Covers of a list's Rows, one behind the other, and asks that the rows rise with an address between two.
func coversOfRows(t *testing.T, family int, l []api.Prefix) []api.Prefix {
	t.Helper()
	rows, e := Rows(family, l)
	if e != api.OK {
		t.Fatalf("Rows(%d, %v): %v", family, l, e)
	}
	var all []api.Prefix
	for i, r := range rows {
		if r.Hop != 1 || word.Cmp(r.First, r.Last) > 0 {
			t.Fatalf("Rows(%d, %v) has %v", family, l, r)
		}
		if i > 0 {
			if between, ok := addr.Next(family, rows[i-1].Last); !ok || word.Cmp(between, r.First) >= 0 {
				t.Fatalf("Rows(%d, %v): %v behind %v", family, l, r, rows[i-1])
			}
		}
		part, e := Cover(family, r.First, r.Last)
		if e != api.OK {
			t.Fatalf("Cover of %v: %v", r, e)
		}
		all = append(all, part...)
	}
	return all
}

// haveAlike asks of the addresses at the ends of all prefixes, and of those beside them, that both lists have them, or neither.
func haveAlike(t *testing.T, family int, a, b []api.Prefix) {
	t.Helper()
	has := func(l []api.Prefix, w api.Word) bool {
		return slices.ContainsFunc(l, func(p api.Prefix) bool { return prefix.Has(p, w) })
	}
	for _, p := range slices.Concat(a, b) {
		for _, w := range []api.Word{prefix.First(p), prefix.Last(family, p)} {
			near := []api.Word{w}
			if next, ok := addr.Next(family, w); ok {
				near = append(near, next)
			}
			if prev, ok := addr.Prev(family, w); ok {
				near = append(near, prev)
			}
			for _, x := range near {
				if has(a, x) != has(b, x) {
					t.Fatalf("%v and %v do not both have %x", a, b, x)
				}
			}
		}
	}
}

// mark is what no call makes.
var mark = api.Prefix{Addr: api.Word{Hi: 0xdead, Lo: 0xbeef}, Len: -99}

// roomy is the list with spare room behind it, in which marks stand.
func roomy(l []api.Prefix) []api.Prefix {
	whole := append(slices.Clone(l), slices.Repeat([]api.Prefix{mark}, len(l)+3)...)
	return whole[:len(l)]
}

// stays asks that the list is what it was, its spare room too.
func stays(t *testing.T, l, was []api.Prefix) {
	t.Helper()
	whole := l[:2*len(was)+3]
	if !slices.Equal(l, was) || slices.ContainsFunc(whole[len(was):], func(p api.Prefix) bool { return p != mark }) {
		t.Fatalf("what was handed in is changed: %v was %v", whole, was)
	}
}

// listsToKeep are some in order and some not, with and without what can be merged, and wrong ones.
func listsToKeep() [][]api.Prefix {
	return [][]api.Prefix{
		nil, read4("0.0.0.0/0"), read4("10.0.0.0/8", "12.0.0.0/8"), read4("12.0.0.0/8", "10.0.0.0/8"),
		read4("10.0.0.0/9", "10.128.0.0/9", "10.1.0.0/16"), read4("10.128.0.0/9", "10.1.0.0/16", "10.0.0.0/9", "10.1.0.0/16"),
		read4("0.0.0.1/32", "0.0.0.2/32", "0.0.0.3/32", "0.0.0.4/32", "0.0.0.0/32"),
		append(read4("12.0.0.0/8", "10.0.0.0/8"), api.Prefix{Len: 33}), append(read4("12.0.0.0/8", "10.0.0.0/8"), api.Prefix{Addr: lastSix, Len: 8}),
	}
}

func TestP2HandedInStays(t *testing.T) {
	for _, was := range listsToKeep() {
		l := roomy(was)
		Merge(32, l)
		stays(t, l, was)
		Rows(32, l)
		stays(t, l, was)
		Count(32, l)
		stays(t, l, was)
		Merge(7, l)
		Rows(7, l)
		Count(7, l)
		stays(t, l, was)
	}
}

// TestP2AnswersAreTheCallersOwn writes over an answer and its spare room: neither what was handed in nor another answer may change.
func TestP2AnswersAreTheCallersOwn(t *testing.T) {
	for _, was := range listsToKeep() {
		l := roomy(was)
		few, _ := Merge(32, l)
		rows, _ := Rows(32, l)
		otherFew, _ := Merge(32, l)
		otherRows, _ := Rows(32, l)
		keptFew, keptRows := slices.Clone(few), slices.Clone(rows)
		for i := range few[:cap(few)] {
			few[:cap(few)][i] = api.Prefix{Addr: lastSix, Len: 77}
		}
		for i := range rows[:cap(rows)] {
			rows[:cap(rows)][i] = api.Seg{First: lastSix, Hop: 77}
		}
		stays(t, l, was)
		if !slices.Equal(otherFew, keptFew) || !slices.Equal(otherRows, keptRows) {
			t.Fatalf("of %v another answer is changed", was)
		}
		if again, _ := Merge(32, l); !slices.Equal(again, keptFew) {
			t.Fatalf("Merge of %v is another one the second time: %v", was, again)
		}
		if again, _ := Rows(32, l); !slices.Equal(again, keptRows) {
			t.Fatalf("Rows of %v is another one the second time: %v", was, again)
		}
	}
}

// TestP2NotKept: what is changed behind a call changes none of its answers.
func TestP2NotKept(t *testing.T) {
	l := read4("10.0.0.0/8", "12.0.0.0/8")
	few, _ := Merge(32, l)
	rows, _ := Rows(32, l)
	l[0], l[1] = mark, mark
	if !slices.Equal(few, read4("10.0.0.0/8", "12.0.0.0/8")) || !slices.Equal(rows, []api.Seg{row4("10.0.0.0", "10.255.255.255"), row4("12.0.0.0", "12.255.255.255")}) {
		t.Errorf("the answers hang on the list: %v, %v", few, rows)
	}
}
