package prefix

import (
	"math"
	"slices"
	"strings"
	"testing"

	"turnpike/api"
)

func TestP301CheckRight(t *testing.T) {
	for _, family := range families {
		for _, p := range append(prefixes(family), pairs(family)...) {
			if e := Check(family, p); e != api.OK {
				t.Fatalf("Check(%d, %v) = %v", family, p, e)
			}
		}
	}
}

func TestP301CheckFamily(t *testing.T) {
	for _, family := range noFamilies {
		for _, p := range []api.Prefix{{}, {Len: -1}, {Len: 8}, {Len: 32}, {Len: 128}, {Len: 129}, {Addr: lastSix}, {Addr: lastSix, Len: 128}, {Addr: lastSix, Len: math.MaxInt}} {
			if e := Check(family, p); e != api.ErrFamily {
				t.Errorf("Check(%d, %v) = %v, want ErrFamily", family, p, e)
			}
		}
	}
}

func TestP301CheckLen(t *testing.T) {
	for _, family := range families {
		for _, n := range noLens(family) {
			// Each of these words has bits behind every length, but the first: ErrLen is ahead of ErrHost.
			for _, w := range []api.Word{{}, {Lo: 1}, {Hi: 1 << 63, Lo: 1}, lastFour, lastSix} {
				if e := Check(family, api.Prefix{Addr: w, Len: n}); e != api.ErrLen {
					t.Errorf("Check(%d, %x/%d) = %v, want ErrLen", family, w, n, e)
				}
			}
		}
	}
}

func TestP301CheckHost(t *testing.T) {
	for _, family := range families {
		for n := range family + 1 {
			// A bit may also lie behind all of the family's.
			for i := n; i < 128; i++ {
				one := strings.Repeat("0", i) + "1"
				all := strings.Repeat("1", i+1)
				for _, s := range []string{one, all} {
					if e := Check(family, api.Prefix{Addr: ofBits(s), Len: n}); e != api.ErrHost {
						t.Fatalf("Check(%d, %s as %d bits) = %v, want ErrHost", family, s, n, e)
					}
				}
			}
		}
	}
}

func TestP301Of(t *testing.T) {
	for _, family := range families {
		for _, w := range addresses(family) {
			for n := range family + 1 {
				if p, e := Of(family, w, n); e != api.OK || p != made(spell(w, n)) {
					t.Fatalf("Of(%d, %x, %d) = %v, %v", family, w, n, p, e)
				}
			}
		}
	}
	if p, e := Of(32, api.Word{Hi: 0x0a0a0a0a << 32}, 9); e != api.OK || p != (api.Prefix{Addr: api.Word{Hi: 0x0a000000 << 32}, Len: 9}) {
		t.Errorf("Of(32, 10.10.10.10, 9) = %v, %v", p, e)
	}
}

// refusesOf asks that Of answers the error, and the zero prefix beside it.
func refusesOf(t *testing.T, family int, w api.Word, n int, want api.Errno) {
	t.Helper()
	if p, e := Of(family, w, n); e != want || p != (api.Prefix{}) {
		t.Errorf("Of(%d, %x, %d) = %v, %v, want %v", family, w, n, p, e, want)
	}
}

func TestP301OfRefuses(t *testing.T) {
	lens := append(noLens(32), 0, 8, 31, 32)
	for _, family := range noFamilies {
		for _, n := range lens {
			refusesOf(t, family, api.Word{}, n, api.ErrFamily)
			refusesOf(t, family, lastSix, n, api.ErrFamily)
		}
	}
	// No address is ahead of no length.
	for i := 32; i < 128; i++ {
		for _, n := range lens {
			refusesOf(t, 32, ofBits(strings.Repeat("0", i)+"1"), n, api.ErrWide)
			refusesOf(t, 32, ofBits(strings.Repeat("1", i+1)), n, api.ErrWide)
		}
	}
	for _, family := range families {
		for _, n := range noLens(family) {
			for _, w := range addresses(family) {
				refusesOf(t, family, w, n, api.ErrLen)
			}
		}
	}
}

func TestP302Has(t *testing.T) {
	for _, family := range families {
		for _, p := range pairs(family) {
			ends := []string{fill(bitsOf(p), family, "0"), fill(bitsOf(p), family, "1")}
			for _, s := range ends {
				if !Has(p, ofBits(s)) {
					t.Fatalf("Has(%v, %s) = false", p, s)
				}
			}
			for _, w := range addresses(family) {
				if want := strings.HasPrefix(spell(w, family), bitsOf(p)); Has(p, w) != want {
					t.Fatalf("Has(%v, %x) = %v", p, w, !want)
				}
			}
			// One bit of the prefix's own is another: the address is not in it.
			for i := range p.Len {
				s := []byte(ends[0])
				s[i] ^= 1
				if Has(p, ofBits(string(s))) {
					t.Fatalf("Has(%v, %s) = true", p, s)
				}
			}
		}
	}
}

func TestP302Within(t *testing.T) {
	for _, family := range families {
		l := pairs(family)
		for _, a := range l {
			for _, b := range l {
				if want := strings.HasPrefix(bitsOf(a), bitsOf(b)); Within(a, b) != want {
					t.Fatalf("Within(%v, %v) = %v", a, b, !want)
				}
			}
			if !Within(a, a) || !Within(a, api.Prefix{}) {
				t.Fatalf("%v does not lie within itself, or within all", a)
			}
		}
	}
	// The same word, longer and shorter.
	if Within(api.Prefix{}, api.Prefix{Len: 1}) || !Within(api.Prefix{Len: 1}, api.Prefix{}) {
		t.Error("Within by the length alone")
	}
}

func TestP302Ends(t *testing.T) {
	for _, family := range families {
		for _, p := range append(prefixes(family), pairs(family)...) {
			if w := First(p); w != ofBits(fill(bitsOf(p), family, "0")) {
				t.Fatalf("First(%v) = %x", p, w)
			}
			if w := Last(family, p); w != ofBits(fill(bitsOf(p), family, "1")) {
				t.Fatalf("Last(%d, %v) = %x", family, p, w)
			}
		}
	}
	if Last(32, api.Prefix{}) != lastFour || Last(128, api.Prefix{}) != lastSix || Last(32, api.Prefix{Addr: lastFour, Len: 32}) != lastFour {
		t.Error("the last address of all")
	}
	if Last(32, made("00001010")) != (api.Word{Hi: 0x0affffff << 32}) {
		t.Error("the last address of 10.0.0.0/8")
	}
}

func TestP303Parent(t *testing.T) {
	for _, family := range families {
		for _, p := range append(prefixes(family), pairs(family)...) {
			up, ok := Parent(p)
			if p.Len == 0 {
				if ok || up != (api.Prefix{}) {
					t.Fatalf("Parent of all = %v, %v", up, ok)
				}
				continue
			}
			if !ok || up != made(bitsOf(p)[:p.Len-1]) {
				t.Fatalf("Parent(%v) = %v, %v", p, up, ok)
			}
		}
	}
}

func TestP303Kids(t *testing.T) {
	for _, family := range families {
		for _, p := range append(prefixes(family), pairs(family)...) {
			low, high, ok := Kids(family, p)
			if p.Len == family {
				if ok || low != (api.Prefix{}) || high != (api.Prefix{}) {
					t.Fatalf("Kids(%d, %v) = %v, %v, %v", family, p, low, high, ok)
				}
				continue
			}
			if !ok || low != made(bitsOf(p)+"0") || high != made(bitsOf(p)+"1") {
				t.Fatalf("Kids(%d, %v) = %v, %v, %v", family, p, low, high, ok)
			}
		}
	}
	// As long as an address of the one family, shorter than one of the other.
	p := api.Prefix{Addr: lastFour, Len: 32}
	if low, high, ok := Kids(128, p); !ok || low != (api.Prefix{Addr: lastFour, Len: 33}) || high != (api.Prefix{Addr: api.Word{Hi: 0xffffffff<<32 | 1<<31}, Len: 33}) {
		t.Errorf("Kids(128, ffff:ffff::/32) = %v, %v, %v", low, high, ok)
	}
}

func TestP303Sibling(t *testing.T) {
	for _, family := range families {
		for _, p := range append(prefixes(family), pairs(family)...) {
			q, ok := Sibling(p)
			if p.Len == 0 {
				if ok || q != (api.Prefix{}) {
					t.Fatalf("Sibling of all = %v, %v", q, ok)
				}
				continue
			}
			s := []byte(bitsOf(p))
			s[p.Len-1] ^= 1
			if !ok || q != made(string(s)) {
				t.Fatalf("Sibling(%v) = %v, %v", p, q, ok)
			}
		}
	}
}

// shared is the longest text with which both begin.
func shared(a, b string) string {
	n := 0
	for n < len(a) && n < len(b) && a[n] == b[n] {
		n++
	}
	return a[:n]
}

func TestP304Meet(t *testing.T) {
	for _, family := range families {
		l := pairs(family)
		for _, a := range l {
			for _, b := range l {
				if p := Meet(a, b); p != made(shared(bitsOf(a), bitsOf(b))) {
					t.Fatalf("Meet(%v, %v) = %v", a, b, p)
				}
			}
		}
	}
	a, b := made("000010100"), made("000010101")
	if Meet(a, b) != made("00001010") || Meet(a, made("1")) != (api.Prefix{}) || Meet(a, made("0000")) != made("0000") || Meet(made("0000"), a) != made("0000") {
		t.Error("Meet of 10.0.0.0/9 and its sibling, and others")
	}
	// Words that are the same do not say that the prefixes are.
	if Meet(api.Prefix{Len: 7}, api.Prefix{Len: 9}) != (api.Prefix{Len: 7}) {
		t.Error("Meet of 0.0.0.0/7 and 0.0.0.0/9")
	}
}

// order is that of W3. Bits filled up by noughts are in order as their numbers are.
func order(a, b api.Prefix) int {
	if c := strings.Compare(fill(bitsOf(a), 128, "0"), fill(bitsOf(b), 128, "0")); c != 0 {
		return c
	}
	switch {
	case a.Len < b.Len:
		return -1
	case a.Len > b.Len:
		return 1
	}
	return 0
}

func TestP304Cmp(t *testing.T) {
	for _, family := range families {
		l := pairs(family)
		for _, a := range l {
			for _, b := range l {
				if c := Cmp(a, b); c != order(a, b) {
					t.Fatalf("Cmp(%v, %v) = %d", a, b, c)
				}
			}
		}
	}
	eight := made("00001010")
	if Cmp(eight, made("000010100")) != -1 || Cmp(made("000010101"), made("000010100")) != 1 || Cmp(eight, eight) != 0 {
		t.Error("Cmp of 10.0.0.0/8 and its kids")
	}
	// The address goes ahead of the length.
	if Cmp(made("00001011"), made("0000101000")) != 1 || Cmp(made("0000101000"), made("1")) != -1 {
		t.Error("Cmp of a short one behind a long one")
	}
}

// noPrefixes are what P9 allows to be handed in: nothing is promised, but that the call ends.
func noPrefixes() []api.Prefix {
	var l []api.Prefix
	for _, n := range append(noLens(32), 0, 1, 31, 32, 33, 127, 128) {
		for _, w := range []api.Word{{}, {Lo: 1}, {Hi: 1 << 63, Lo: 1}, lastSix} {
			l = append(l, api.Prefix{Addr: w, Len: n})
		}
	}
	return l
}

func TestNothingPanics(t *testing.T) {
	l := noPrefixes()
	for _, p := range l {
		First(p)
		Parent(p)
		Sibling(p)
		for _, family := range append(slices.Clone(noFamilies), families...) {
			Check(family, p)
			Of(family, p.Addr, p.Len)
			Last(family, p)
			Kids(family, p)
			Text(family, p)
		}
		for _, q := range l {
			Has(p, q.Addr)
			Within(p, q)
			Meet(p, q)
			Cmp(p, q)
		}
	}
}
