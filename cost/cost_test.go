package cost

import (
	"fmt"
	"math"
	"math/big"
	"testing"

	"turnpike/api"
)

func TestP901Pow(t *testing.T) {
	for n := range 192 {
		c, e := Pow(n)
		expect(t, fmt.Sprintf("Pow(%d)", n), c, e, new(big.Int).Lsh(big.NewInt(1), uint(n)))
	}
	for n, want := range map[int]api.Cost{
		0: {0, 0, 1}, 1: {0, 0, 2}, 63: {0, 0, 1 << 63}, 64: {0, 1, 0}, 65: {0, 2, 0},
		127: {0, 1 << 63, 0}, 128: {1, 0, 0}, 129: {2, 0, 0}, 191: {1 << 63, 0, 0},
	} {
		if c, e := Pow(n); c != want || e != api.OK {
			t.Errorf("Pow(%d) = %v, %v, want %v", n, c, e, want)
		}
	}
}

func TestP901PowOutOfBounds(t *testing.T) {
	for _, n := range []int{
		math.MinInt, math.MinInt + 1, math.MinInt32, -256, -193, -192, -191, -128, -64, -63, -2, -1,
		192, 193, 255, 256, 320, math.MaxInt32, 1 << 32, 1<<32 + 64, math.MaxInt - 1, math.MaxInt,
	} {
		c, e := Pow(n)
		refused(t, fmt.Sprintf("Pow(%d)", n), c, e, api.ErrArg)
	}
}

func TestP901Of(t *testing.T) {
	for _, n := range factors() {
		if c := Of(n); c != (api.Cost{0, 0, n}) {
			t.Errorf("Of(%d) = %v", n, c)
		}
	}
}

func TestP902Add(t *testing.T) {
	for _, a := range samples() {
		for _, b := range samples() {
			c, e := Add(a, b)
			expect(t, fmt.Sprintf("Add(%v, %v)", a, b), c, e, new(big.Int).Add(number(a), number(b)))
		}
	}
}

func TestP902AddCarries(t *testing.T) {
	for _, x := range []struct{ a, b, sum api.Cost }{
		{Of(2), Of(3), Of(5)},
		{api.Cost{}, api.Cost{}, api.Cost{}},
		{Of(most), Of(1), api.Cost{0, 1, 0}},
		{Of(most), Of(most), api.Cost{0, 1, most - 1}},
		{api.Cost{0, most, 5}, api.Cost{0, 1, 0}, api.Cost{1, 0, 5}},
		{api.Cost{0, most, most}, Of(1), api.Cost{1, 0, 0}},
		{api.Cost{0, most, most}, api.Cost{0, most, most}, api.Cost{1, most, most - 1}},
		{api.Cost{7, most - 1, most}, Of(1), api.Cost{7, most, 0}},
	} {
		if c, e := Add(x.a, x.b); c != x.sum || e != api.OK {
			t.Errorf("Add(%v, %v) = %v, %v, want %v", x.a, x.b, c, e, x.sum)
		}
	}
}

func TestP902AddAtTheLimit(t *testing.T) {
	half, _ := Pow(191)
	for _, a := range samples() {
		rest := costOf(new(big.Int).Sub(number(ones), number(a)))
		if c, e := Add(a, rest); c != ones || e != api.OK {
			t.Errorf("%v and what lacks to the greatest: %v, %v", a, c, e)
		}
		if a != (api.Cost{}) {
			above := costOf(new(big.Int).Sub(limit, number(a)))
			c, e := Add(a, above)
			refused(t, fmt.Sprintf("%v and one more", a), c, e, api.ErrWide)
		}
	}
	for _, x := range [][2]api.Cost{{ones, Of(1)}, {Of(1), ones}, {half, half}, {ones, ones}, {{most, 0, 0}, {1, 0, 0}}, {{most, most, 0}, {0, 1, 0}}} {
		c, e := Add(x[0], x[1])
		refused(t, fmt.Sprintf("Add(%v, %v)", x[0], x[1]), c, e, api.ErrWide)
	}
}

// asMul asks that Mul answers what the product is.
func asMul(t *testing.T, a api.Cost, n uint64) {
	t.Helper()
	c, e := Mul(a, n)
	product := new(big.Int).Mul(number(a), new(big.Int).SetUint64(n))
	expect(t, fmt.Sprintf("Mul(%v, %d)", a, n), c, e, product)
}

func TestP902Mul(t *testing.T) {
	for _, a := range samples() {
		for _, n := range factors() {
			asMul(t, a, n)
		}
	}
}

func TestP902MulCarries(t *testing.T) {
	for _, x := range []struct {
		a       api.Cost
		n       uint64
		product api.Cost
	}{
		{Of(6), 7, Of(42)},
		{Of(1 << 63), 2, api.Cost{0, 1, 0}},
		{Of(most), most, api.Cost{0, most - 1, 1}},
		{api.Cost{0, 1 << 63, 1}, 2, api.Cost{1, 0, 2}},
		{api.Cost{0, most, most}, 2, api.Cost{1, most, most - 1}},
		{api.Cost{0, most, most}, most, api.Cost{most - 1, most, 1}},
		{api.Cost{1, most, 1 << 63}, 2, api.Cost{3, most, 0}},
		{api.Cost{0, 0x5555555555555555, 0x5555555555555556}, 3, api.Cost{1, 0, 2}},
	} {
		if c, e := Mul(x.a, x.n); c != x.product || e != api.OK {
			t.Errorf("Mul(%v, %d) = %v, %v, want %v", x.a, x.n, c, e, x.product)
		}
	}
}

func TestP902MulByNoughtAndOne(t *testing.T) {
	for _, a := range samples() {
		if c, e := Mul(a, 0); c != (api.Cost{}) || e != api.OK {
			t.Errorf("Mul(%v, 0) = %v, %v", a, c, e)
		}
		if c, e := Mul(a, 1); c != a || e != api.OK {
			t.Errorf("Mul(%v, 1) = %v, %v", a, c, e)
		}
	}
	for _, n := range factors() {
		if c, e := Mul(api.Cost{}, n); c != (api.Cost{}) || e != api.OK {
			t.Errorf("Mul(0, %d) = %v, %v", n, c, e)
		}
		if c, e := Mul(Of(1), n); c != Of(n) || e != api.OK {
			t.Errorf("Mul(1, %d) = %v, %v", n, c, e)
		}
	}
}

func TestP902MulAtTheLimit(t *testing.T) {
	for _, n := range factors() {
		if n < 2 {
			continue
		}
		greatest := new(big.Int).Quo(number(ones), new(big.Int).SetUint64(n))
		a := costOf(greatest)
		asMul(t, a, n)
		if _, e := Mul(a, n); e != api.OK {
			t.Errorf("Mul(%v, %d): %v", a, n, e)
		}
		above := costOf(greatest.Add(greatest, big.NewInt(1)))
		c, e := Mul(above, n)
		refused(t, fmt.Sprintf("Mul(%v, %d)", above, n), c, e, api.ErrWide)
	}
	for _, n := range []uint64{2, 3, 10, 1 << 63, most} {
		c, e := Mul(ones, n)
		refused(t, fmt.Sprintf("Mul(ones, %d)", n), c, e, api.ErrWide)
	}
	// Products that are 0, or small, where what does not fit is cut off.
	for n := uint(1); n < 64; n++ {
		a, _ := Pow(192 - int(n))
		c, e := Mul(a, 1<<n)
		refused(t, fmt.Sprintf("Mul(%v, 1<<%d)", a, n), c, e, api.ErrWide)
	}
}

func TestP902Cmp(t *testing.T) {
	for _, a := range samples() {
		for _, b := range samples() {
			if got, want := Cmp(a, b), number(a).Cmp(number(b)); got != want {
				t.Fatalf("Cmp(%v, %v) = %d, want %d", a, b, got, want)
			}
		}
	}
}

func TestP902CmpOfOnePart(t *testing.T) {
	pairs := [][2]uint64{{0, 1}, {5, 6}, {1<<63 - 1, 1 << 63}, {0, 1 << 63}, {1, most}, {most - 1, most}}
	for _, around := range edges() {
		for at := range around {
			for _, p := range pairs {
				less, more := around, around
				less[at], more[at] = p[0], p[1]
				if Cmp(less, more) != -1 || Cmp(more, less) != 1 || Cmp(less, less) != 0 {
					t.Fatalf("Cmp of %v and %v", less, more)
				}
			}
		}
	}
}

func TestP902CmpHighestFirst(t *testing.T) {
	for _, x := range [][2]api.Cost{{{0, most, most}, {1, 0, 0}}, {{0, 0, most}, {0, 1, 0}}, {{3, 4, most}, {3, 5, 0}}, {{2, most, 0}, {3, 0, 1}}} {
		if Cmp(x[0], x[1]) != -1 || Cmp(x[1], x[0]) != 1 {
			t.Errorf("Cmp of %v and %v", x[0], x[1])
		}
	}
}
