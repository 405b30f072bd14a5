package prefix

import (
	"iter"
	"math"
	"slices"
	"testing"

	"turnpike/api"
)

// parts is what Split must go over, made by taking kids of kids.
func parts(s string, n int) []api.Prefix {
	if len(s) == n {
		return []api.Prefix{made(s)}
	}
	return append(parts(s+"0", n), parts(s+"1", n)...)
}

// goesOver asks that a sequence goes over just these.
func goesOver(t *testing.T, s iter.Seq[api.Prefix], want []api.Prefix) {
	t.Helper()
	if got := slices.Collect(s); !slices.Equal(got, want) {
		t.Fatalf("it goes over %v, want %v", got, want)
	}
}

func TestP305Split(t *testing.T) {
	for _, family := range families {
		for _, p := range append(prefixes(family), pairs(family)...) {
			for more := range min(4, family-p.Len+1) {
				goesOver(t, Split(family, p, p.Len+more), parts(bitsOf(p), p.Len+more))
			}
		}
	}
	goesOver(t, Split(32, made("00001010"), 10), []api.Prefix{made("0000101000"), made("0000101001"), made("0000101010"), made("0000101011")})
}

func TestP305SplitEnds(t *testing.T) {
	goesOver(t, Split(32, api.Prefix{}, 0), []api.Prefix{{}})
	goesOver(t, Split(128, api.Prefix{}, 0), []api.Prefix{{}})
	goesOver(t, Split(32, api.Prefix{}, 1), []api.Prefix{{Len: 1}, {Addr: api.Word{Hi: 1 << 63}, Len: 1}})
	goesOver(t, Split(32, api.Prefix{Addr: lastFour, Len: 32}, 32), []api.Prefix{{Addr: lastFour, Len: 32}})
	goesOver(t, Split(128, api.Prefix{Addr: lastSix, Len: 128}, 128), []api.Prefix{{Addr: lastSix, Len: 128}})
	// Over the edge of the halves of a word, and up to the last address of all.
	goesOver(t, Split(128, made(fill("", 60, "1")), 68), parts(fill("", 60, "1"), 68))
	goesOver(t, Split(128, made(fill("", 120, "1")), 128), parts(fill("", 120, "1"), 128))
	goesOver(t, Split(32, made(fill("", 20, "1")), 32), parts(fill("", 20, "1"), 32))
}

func TestP305SplitOverNone(t *testing.T) {
	ten := made("00001010")
	for _, family := range families {
		for _, n := range append(noLens(family), 0, 1, 7) {
			goesOver(t, Split(family, ten, n), nil)
		}
		for _, n := range noLens(family) {
			goesOver(t, Split(family, api.Prefix{}, n), nil)
			// No right prefix: by its own length, and by one that a right one has.
			goesOver(t, Split(family, api.Prefix{Len: n}, n), nil)
			goesOver(t, Split(family, api.Prefix{Len: n}, family), nil)
		}
		for n := range family {
			low := api.Prefix{Addr: ofBits(fill("", n, "0") + "1"), Len: n}
			for _, by := range []int{n, n + 1, family} {
				goesOver(t, Split(family, low, by), nil)
			}
		}
	}
	goesOver(t, Split(32, api.Prefix{Addr: api.Word{Lo: 1}, Len: 32}, 32), nil)
	goesOver(t, Split(32, api.Prefix{Len: 33}, 33), nil)
	for _, family := range noFamilies {
		for _, n := range []int{math.MinInt, -1, 0, 1, 8, 16, 31, 32, 33, 64, 128, 256, math.MaxInt} {
			goesOver(t, Split(family, api.Prefix{}, n), nil)
			goesOver(t, Split(family, api.Prefix{Len: n}, n), nil)
		}
	}
}

func TestP305SplitLeftEarly(t *testing.T) {
	p := made("00001010")
	all := parts("00001010", 12)
	s := Split(32, p, 12)
	for enough := 1; enough <= len(all); enough++ {
		var got []api.Prefix
		// Called by hand, so that a call behind the false would be seen.
		s(func(x api.Prefix) bool {
			got = append(got, x)
			return len(got) < enough
		})
		if !slices.Equal(got, all[:enough]) {
			t.Fatalf("left behind %d: %v", enough, got)
		}
	}
	goesOver(t, s, all)
}

func TestP305SplitVeryMany(t *testing.T) {
	for _, n := range []int{64, 127, 128} {
		var got []api.Prefix
		for x := range Split(128, api.Prefix{}, n) {
			if got = append(got, x); len(got) == 5 {
				break
			}
		}
		if want := parts(fill("", n-3, "0"), n)[:5]; !slices.Equal(got, want) {
			t.Errorf("the first five by %d: %v", n, got)
		}
	}
}

func TestP305SplitAgainAndWithin(t *testing.T) {
	all := parts("00001010", 11)
	s := Split(32, made("00001010"), 11)
	goesOver(t, s, all)
	goesOver(t, s, all)
	i := 0
	for x := range s {
		if x != all[i] {
			t.Fatalf("number %d is %v", i, x)
		}
		goesOver(t, s, all)
		for range s {
			break
		}
		i++
	}
	if i != len(all) {
		t.Errorf("%d of %d", i, len(all))
	}
}

func TestP305SplitAsItWasThen(t *testing.T) {
	p, n, family := made("00001010"), 10, 32
	s := Split(family, p, n)
	p.Addr, p.Len, n, family = lastSix, 3, 2, 7
	goesOver(t, s, parts("00001010", 10))
	if p.Addr != lastSix || p.Len != 3 || n != 2 || family != 7 {
		t.Error("what was handed in is changed")
	}
}

func TestP305SplitPulled(t *testing.T) {
	s := Split(128, made("1"), 3)
	next, stop := iter.Pull(s)
	defer stop()
	for _, want := range parts("1", 3) {
		if x, ok := next(); !ok || x != want {
			t.Fatalf("%v, %v, want %v", x, ok, want)
		}
	}
	if x, ok := next(); ok {
		t.Errorf("and %v", x)
	}
}
