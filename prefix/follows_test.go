package prefix

import (
	"slices"
	"testing"

	"turnpike/addr"
	"turnpike/api"
	"turnpike/word"
)

func TestP307ApartOrWithin(t *testing.T) {
	for _, family := range families {
		l := pairs(family)
		for _, a := range l {
			for _, b := range l {
				apart := word.Cmp(Last(family, a), First(b)) < 0 || word.Cmp(Last(family, b), First(a)) < 0
				if within := Within(a, b) || Within(b, a); within == apart {
					t.Fatalf("%v and %v: within %v, apart %v", a, b, within, apart)
				}
				if Within(a, b) && Within(b, a) && a != b {
					t.Fatalf("%v and %v lie within one another", a, b)
				}
			}
		}
	}
}

// around are a prefix's ends, and what lies beside them.
func around(family int, p api.Prefix) []api.Word {
	l := []api.Word{First(p), Last(family, p)}
	if w, ok := addr.Prev(family, First(p)); ok {
		l = append(l, w)
	}
	if w, ok := addr.Next(family, First(p)); ok {
		l = append(l, w)
	}
	if w, ok := addr.Prev(family, Last(family, p)); ok {
		l = append(l, w)
	}
	if w, ok := addr.Next(family, Last(family, p)); ok {
		l = append(l, w)
	}
	return l
}

func TestP307HasBetweenItsEnds(t *testing.T) {
	for _, family := range families {
		for _, p := range append(prefixes(family), pairs(family)...) {
			for _, w := range append(around(family, p), addresses(family)...) {
				between := word.Cmp(First(p), w) <= 0 && word.Cmp(w, Last(family, p)) <= 0
				if Has(p, w) != between {
					t.Fatalf("Has(%v, %x) = %v", p, w, !between)
				}
			}
		}
	}
}

func TestP307KidsHaveWhatTheParentHas(t *testing.T) {
	for _, family := range families {
		for _, p := range append(prefixes(family), pairs(family)...) {
			low, high, ok := Kids(family, p)
			if !ok {
				continue
			}
			between, more := addr.Next(family, Last(family, low))
			if First(low) != First(p) || !more || between != First(high) || Last(family, high) != Last(family, p) {
				t.Fatalf("%v: its kids %v and %v do not lie side by side in it", p, low, high)
			}
			for _, w := range append(around(family, p), around(family, low)...) {
				if Has(p, w) != (Has(low, w) || Has(high, w)) || Has(low, w) && Has(high, w) {
					t.Fatalf("%v, %v, %v: one has %x, the other not", p, low, high, w)
				}
			}
		}
	}
}

func TestP307SiblingsAndParents(t *testing.T) {
	for _, family := range families {
		for _, p := range append(prefixes(family), pairs(family)...) {
			low, high, ok := Kids(family, p)
			if !ok {
				continue
			}
			if s, ok := Sibling(low); !ok || s != high {
				t.Fatalf("Sibling(%v) = %v, %v", low, s, ok)
			}
			if s, ok := Sibling(high); !ok || s != low {
				t.Fatalf("Sibling(%v) = %v, %v", high, s, ok)
			}
			for _, kid := range []api.Prefix{low, high} {
				if up, ok := Parent(kid); !ok || up != p || Check(family, kid) != api.OK {
					t.Fatalf("Parent(%v) = %v, %v", kid, up, ok)
				}
			}
		}
	}
}

func TestP308Meet(t *testing.T) {
	for _, family := range families {
		l := pairs(family)
		for _, a := range l {
			for _, b := range l {
				p := Meet(a, b)
				if p != Meet(b, a) {
					t.Fatalf("Meet of %v and %v knows an order", a, b)
				}
				if (p == a) != Within(b, a) {
					t.Fatalf("Meet(%v, %v) = %v, but Within = %v", a, b, p, !(p == a))
				}
				if Check(family, p) != api.OK || !Within(a, p) || !Within(b, p) {
					t.Fatalf("Meet(%v, %v) = %v, in which not both lie", a, b, p)
				}
				// It is the longest one: both lie within no kid of it.
				low, high, _ := Kids(family, p)
				if p.Len < family && (Within(a, low) && Within(b, low) || Within(a, high) && Within(b, high)) {
					t.Fatalf("Meet(%v, %v) = %v is not the longest one", a, b, p)
				}
			}
		}
	}
}

func TestP308CmpIsAnOrder(t *testing.T) {
	for _, family := range families {
		l := pairs(family)
		for _, a := range l {
			for _, b := range l {
				if Cmp(a, b) != -Cmp(b, a) || (Cmp(a, b) == 0) != (a == b) {
					t.Fatalf("Cmp(%v, %v) = %d, the other way %d", a, b, Cmp(a, b), Cmp(b, a))
				}
			}
		}
		few := append(tree("", 2), tree(fill("", family-2, "1"), 2)...)
		for _, a := range few {
			for _, b := range few {
				for _, c := range few {
					if Cmp(a, b) <= 0 && Cmp(b, c) <= 0 && Cmp(a, c) > 0 {
						t.Fatalf("%v, %v, %v do not rise", a, b, c)
					}
				}
			}
		}
	}
}

func TestP308WhatLiesWithinStandsRightBehind(t *testing.T) {
	for _, family := range families {
		l := pairs(family)
		slices.SortFunc(l, Cmp)
		l = slices.Compact(l)
		for i, p := range l {
			end := i + 1
			for end < len(l) && Within(l[end], p) {
				end++
			}
			for k, q := range l {
				if Within(q, p) != (k >= i && k < end) {
					t.Fatalf("%v stands at %d; %v at %d", p, i, q, k)
				}
			}
		}
	}
}

func TestP309ParseOfText(t *testing.T) {
	for _, family := range families {
		for _, p := range append(prefixes(family), pairs(family)...) {
			s, e := Text(family, p)
			if e != api.OK {
				t.Fatalf("Text(%d, %v): %v", family, p, e)
			}
			if back, e := Parse(family, s); e != api.OK || back != p {
				t.Fatalf("Parse of Text(%d, %v) = %v, %v", family, p, back, e)
			}
		}
	}
}

// sideBySide asks of what Split goes over that each one is right and lies within, each begins right behind the one ahead, and they reach from p's first address to its last; it tells how many they are.
func sideBySide(t *testing.T, family int, p api.Prefix, n int) int {
	t.Helper()
	count := 0
	want := First(p)
	more := true
	for x := range Split(family, p, n) {
		if !more || First(x) != want || x.Len != n || Check(family, x) != api.OK || !Within(x, p) {
			t.Fatalf("Split(%d, %v, %d): %v at %d", family, p, n, x, count)
		}
		if count++; Last(family, x) == Last(family, p) {
			more = false
			continue
		}
		want, more = addr.Next(family, Last(family, x))
	}
	if more {
		t.Fatalf("Split(%d, %v, %d) ends ahead of %x", family, p, n, want)
	}
	return count
}

func TestP309SplitSideBySide(t *testing.T) {
	for _, family := range families {
		for _, p := range pairs(family) {
			for more := range min(7, family-p.Len+1) {
				if count := sideBySide(t, family, p, p.Len+more); count != 1<<more {
					t.Fatalf("Split(%d, %v, %d): %d prefixes", family, p, p.Len+more, count)
				}
			}
		}
		if count := sideBySide(t, family, api.Prefix{}, 16); count != 1<<16 {
			t.Errorf("Split(%d, all, 16): %d prefixes", family, count)
		}
	}
}
