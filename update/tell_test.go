package update

import (
	"strings"
	"testing"

	"turnpike/addr"
	"turnpike/api"
	"turnpike/table"
)

func TestP2204ByHand(t *testing.T) {
	l, m := begun(t, 32, hops{"": 9, dotted(10): 1, dotted(10, 1): 2, dotted(10, 1, 2, 3): 3}, 4, api.MaxImage)
	for _, x := range []struct {
		bits string
		want int
	}{{dotted(10, 1, 2, 3), 3}, {dotted(10, 1, 2, 4), 2}, {dotted(10, 1, 255, 255), 2}, {dotted(10, 2, 0, 0), 1}, {dotted(10, 0, 255, 255), 1}, {dotted(9, 255, 255, 255), 9}, {dotted(11, 0, 0, 0), 9}, {dotted(255, 255, 255, 255), 9}, {dotted(0, 0, 0, 0), 9}} {
		if hop := l.Lookup(wordOf(x.bits)); hop != x.want {
			t.Errorf("P2204: Lookup of %s: %d; want %d", x.bits, hop, x.want)
		}
	}
	doesTell(t, l, m, api.OK, drop(""), drop(dotted(10, 1)), set(dotted(10, 1, 2), 65535))
	for _, x := range []struct {
		bits string
		want int
	}{{dotted(10, 1, 2, 3), 3}, {dotted(10, 1, 2, 4), 65535}, {dotted(10, 1, 3, 0), 1}, {dotted(9, 255, 255, 255), 0}, {dotted(11), 0}} {
		if hop := l.Lookup(wordOf(x.bits)); hop != x.want {
			t.Errorf("P2204: Lookup of %s: %d; want %d", x.bits, hop, x.want)
		}
	}
	long := strings.Repeat("01", 64)
	six, n := begun(t, 128, hops{long: 1, long[:127]: 2, long[:64]: 3, long[:65]: 4}, 128, api.MaxImage)
	doesTell(t, six, n, api.OK, drop(long[:65]), set(long[:3], 5))
	for _, x := range []struct {
		bits string
		want int
	}{{long, 1}, {long[:127] + "0", 2}, {long[:126] + "1", 3}, {long[:63] + "0", 5}, {long[:2] + "1", 0}, {"", 0}} {
		if hop := six.Lookup(wordOf(x.bits)); hop != x.want {
			t.Errorf("P2204: Lookup of %s: %d; want %d", x.bits, hop, x.want)
		}
	}
}

// TestP2204NoAddress: a word that has a bit behind the family's leads nowhere, whatever the table.
func TestP2204NoAddress(t *testing.T) {
	l, m := begun(t, 32, hops{"": 9, "0": 1, "111": 2}, 4, api.MaxImage)
	none := func() {
		t.Helper()
		for bit := 32; bit < 128; bit++ {
			for _, ahead := range []string{strings.Repeat("0", 32), strings.Repeat("1", 32), dotted(10, 1, 2, 3)} {
				w := wordOf(ahead + strings.Repeat("0", bit-32) + "1")
				if hop := l.Lookup(w); hop != 0 {
					t.Fatalf("P2204: Lookup of %x: %d", w, hop)
				}
			}
		}
		if hop := l.Lookup(api.Word{Hi: 1<<64 - 1, Lo: 1<<64 - 1}); hop != 0 {
			t.Fatalf("P2204: Lookup of all bits: %d", hop)
		}
	}
	none()
	doesTell(t, l, m, api.OK, set("", 8), set("01", 5))
	none()
	undoes(t, l, m)
	none()
	// Of the longer family each word is an address.
	six, _ := begun(t, 128, hops{"": 9}, 4, api.MaxImage)
	for bit := range 128 {
		if hop := six.Lookup(wordOf(strings.Repeat("0", bit) + "1")); hop != 9 {
			t.Fatalf("P2204: Lookup with bit %d: %d", bit, hop)
		}
	}
}

// TestP2204Lookup: of the edges of each prefix, and of the addresses beside them, at every moment.
func TestP2204Lookup(t *testing.T) {
	next := counter()
	found := map[bool]int{}
	for range 60 {
		family := one(next, families...)
		l, m := begun(t, family, nil, one(next, 4, 8, family), 20000)
		for range 12 {
			if upTo(next, 4) == 0 {
				undoes(t, l, m)
			} else {
				does(t, l, m, someChanges(next, family, m.now(), 0))
			}
			h := m.now()
			tab := h.table(family)
			for _, s := range edgesOf(family, h) {
				w := wordOf(s)
				if got := l.Lookup(w); got != h.of(s) || got != table.Lookup(tab, w) {
					t.Fatalf("P2204: Lookup of %s in %v: %d; want %d", s, h, got, h.of(s))
				}
				found[h.of(s) > 0]++
				for _, beside := range []func(int, api.Word) (api.Word, bool){addr.Next, addr.Prev} {
					if w, ok := beside(family, w); ok && l.Lookup(w) != table.Lookup(tab, w) {
						t.Fatalf("P2206: Lookup of %x in %v: %d; want %d", w, h, l.Lookup(w), table.Lookup(tab, w))
					}
				}
			}
		}
	}
	if found[true] < 2000 || found[false] < 500 {
		t.Errorf("what was found: %v", found)
	}
}
