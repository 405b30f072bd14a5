package cost

import (
	"math"
	"math/big"
	"testing"

	"turnpike/api"
)

const most = math.MaxUint64

// ones is the greatest number.
var ones = api.Cost{most, most, most}

// limit is 2^192, the least number that does not fit.
var limit = new(big.Int).Lsh(big.NewInt(1), 192)

// number is what a cost's three numbers say, the highest first.
func number(a api.Cost) *big.Int {
	n := new(big.Int)
	for _, part := range a {
		n.Lsh(n, 64).Or(n, new(big.Int).SetUint64(part))
	}
	return n
}

// costOf is the cost of a number that fits.
func costOf(n *big.Int) api.Cost {
	low := new(big.Int).SetUint64(most)
	part := func(shift uint) uint64 {
		m := new(big.Int).Rsh(n, shift)
		return m.And(m, low).Uint64()
	}
	return api.Cost{part(128), part(64), part(0)}
}

// expect asks that an answer is the number n; ErrWide and 0, if that does not fit.
func expect(t *testing.T, what string, c api.Cost, e api.Errno, n *big.Int) {
	t.Helper()
	if n.Cmp(limit) >= 0 {
		refused(t, what, c, e, api.ErrWide)
		return
	}
	if e != api.OK || c != costOf(n) {
		t.Fatalf("%s = %v, %v, want %v", what, c, e, costOf(n))
	}
}

// refused asks for an error, and for 0 beside it.
func refused(t *testing.T, what string, c api.Cost, e, want api.Errno) {
	t.Helper()
	if e != want || c != (api.Cost{}) {
		t.Fatalf("%s = %v, %v, want %v", what, c, e, want)
	}
}

// noise makes numbers without a pattern, always the same ones.
func noise() func() uint64 {
	x := uint64(88172645463325252)
	return func() uint64 {
		x ^= x << 13
		x ^= x >> 7
		x ^= x << 17
		return x
	}
}

// edges are all costs whose three numbers are of the least and of the greatest.
func edges() []api.Cost {
	var l []api.Cost
	ends := []uint64{0, 1, most - 1, most}
	for _, high := range ends {
		for _, middle := range ends {
			for _, low := range ends {
				l = append(l, api.Cost{high, middle, low})
			}
		}
	}
	return l
}

// samples are the edges, what lies around powers of 2 and of 10, and some without a pattern.
func samples() []api.Cost {
	l := edges()
	around := func(n *big.Int) {
		for d := int64(-1); d <= 1; d++ {
			l = append(l, costOf(new(big.Int).Add(n, big.NewInt(d))))
		}
	}
	for _, n := range []uint{5, 32, 63, 65, 96, 127, 129, 160, 190, 191} {
		around(new(big.Int).Lsh(big.NewInt(1), n))
	}
	for _, n := range []int64{1, 2, 9, 18, 19, 20, 38, 39, 56, 57} {
		around(new(big.Int).Exp(big.NewInt(10), big.NewInt(n), nil))
	}
	next := noise()
	for range 12 {
		l = append(l, api.Cost{next(), next(), next()}, api.Cost{0, next(), next()}, Of(next()), Of(next()>>40))
	}
	return l
}

// factors are numbers of 64 bits: the least, the greatest, what lies around powers of 2, and some without a pattern.
func factors() []uint64 {
	l := []uint64{0, 1, 2, 3, 4, 5, 7, 9, 10, 11, 100, 1000003, most - 2, most - 1, most}
	for _, n := range []uint{8, 31, 32, 33, 62, 63} {
		l = append(l, 1<<n-1, 1<<n, 1<<n+1)
	}
	next := noise()
	for range 8 {
		l = append(l, next(), next()>>32)
	}
	return l
}

func TestSamplesAreSound(t *testing.T) {
	for _, a := range samples() {
		if costOf(number(a)) != a {
			t.Fatalf("%v is not read as itself", a)
		}
	}
	if number(api.Cost{1, 2, 3}).Text(16) != "100000000000000020000000000000003" {
		t.Error("the highest is not first")
	}
	if n := new(big.Int).Add(number(ones), big.NewInt(1)); n.Cmp(limit) != 0 {
		t.Errorf("one more than the greatest is %v", n)
	}
}
