package word

import (
	"math/big"
	"math/bits"
	"testing"

	"turnpike/api"
)

func TestP101Bit(t *testing.T) {
	for _, w := range samples() {
		for _, i := range places() {
			want := 0
			if i >= 0 && i < 128 {
				want = bitOf(w, i)
			}
			if got := Bit(w, i); got != want {
				t.Fatalf("Bit(%x, %d) = %d, want %d", w, i, got, want)
			}
		}
	}
	if Bit(api.Word{Hi: 1 << 63}, 0) != 1 || Bit(api.Word{Hi: 1}, 63) != 1 || Bit(api.Word{Lo: 1 << 63}, 64) != 1 || Bit(api.Word{Lo: 1}, 127) != 1 {
		t.Error("a bit set by hand is not told")
	}
}

func TestP101Mask(t *testing.T) {
	for _, n := range places() {
		want := fromBits(func(i int) int {
			if i < n {
				return 1
			}
			return 0
		})
		if got := Mask(n); got != want {
			t.Fatalf("Mask(%d) = %x, want %x", n, got, want)
		}
	}
	if Mask(-1) != (api.Word{}) || Mask(0) != (api.Word{}) || Mask(1) != (api.Word{Hi: 1 << 63}) || Mask(128) != ones || Mask(129) != ones {
		t.Error("a mask known by hand is another")
	}
}

func TestP102BitByBit(t *testing.T) {
	for _, a := range samples() {
		if want := fromBits(func(i int) int { return 1 - bitOf(a, i) }); Not(a) != want {
			t.Fatalf("Not(%x) = %x, want %x", a, Not(a), want)
		}
		for _, b := range samples() {
			x, y := number(a), number(b)
			if want := wordOf(new(big.Int).And(x, y)); And(a, b) != want {
				t.Fatalf("And(%x, %x) = %x, want %x", a, b, And(a, b), want)
			}
			if want := wordOf(new(big.Int).Or(x, y)); Or(a, b) != want {
				t.Fatalf("Or(%x, %x) = %x, want %x", a, b, Or(a, b), want)
			}
			if want := wordOf(new(big.Int).Xor(x, y)); Xor(a, b) != want {
				t.Fatalf("Xor(%x, %x) = %x, want %x", a, b, Xor(a, b), want)
			}
		}
	}
}

func TestP102Shifts(t *testing.T) {
	for _, a := range samples() {
		for _, n := range places() {
			by := within(n)
			left := fromBits(func(i int) int {
				if i+by > 127 {
					return 0
				}
				return bitOf(a, i+by)
			})
			right := fromBits(func(i int) int {
				if i-by < 0 {
					return 0
				}
				return bitOf(a, i-by)
			})
			if got := Shl(a, n); got != left {
				t.Fatalf("Shl(%x, %d) = %x, want %x", a, n, got, left)
			}
			if got := Shr(a, n); got != right {
				t.Fatalf("Shr(%x, %d) = %x, want %x", a, n, got, right)
			}
		}
	}
	if Shl(api.Word{Lo: 1}, 127) != (api.Word{Hi: 1 << 63}) || Shl(ones, 128) != (api.Word{}) || Shr(ones, 128) != (api.Word{}) || Shl(ones, -1) != ones || Shr(ones, -1) != ones {
		t.Error("a shift known by hand is another")
	}
}

func TestP103Reckoning(t *testing.T) {
	for _, a := range samples() {
		for _, b := range samples() {
			x, y := number(a), number(b)
			sum := new(big.Int).Add(x, y)
			if got, carry := Add(a, b); got != wordOf(sum) || carry != (sum.Cmp(modulus) >= 0) {
				t.Fatalf("Add(%x, %x) = %x, %v, want %x", a, b, got, carry, sum)
			}
			if got, borrow := Sub(a, b); got != wordOf(new(big.Int).Sub(x, y)) || borrow != (y.Cmp(x) > 0) {
				t.Fatalf("Sub(%x, %x) = %x, %v", a, b, got, borrow)
			}
			if got := Cmp(a, b); got != x.Cmp(y) {
				t.Fatalf("Cmp(%x, %x) = %d, want %d", a, b, got, x.Cmp(y))
			}
		}
	}
}

func TestP103CarriesAndBorrows(t *testing.T) {
	one, half := api.Word{Lo: 1}, api.Word{Hi: 1}
	low := api.Word{Lo: ^uint64(0)}
	if s, c := Add(ones, one); s != (api.Word{}) || !c {
		t.Errorf("all ones and 1: %x, %v", s, c)
	}
	if s, c := Add(ones, api.Word{}); s != ones || c {
		t.Errorf("all ones and 0: %x, %v", s, c)
	}
	if s, c := Add(low, one); s != half || c {
		t.Errorf("from the low half to the high one: %x, %v", s, c)
	}
	if s, c := Add(api.Word{Hi: ^uint64(0), Lo: 5}, half); s != (api.Word{Lo: 5}) || !c {
		t.Errorf("out of the high half alone: %x, %v", s, c)
	}
	if d, b := Sub(half, one); d != low || b {
		t.Errorf("borrowed from the high half: %x, %v", d, b)
	}
	if d, b := Sub(api.Word{}, one); d != ones || !b {
		t.Errorf("below 0: %x, %v", d, b)
	}
	if d, b := Sub(half, half); d != (api.Word{}) || b {
		t.Errorf("the same: %x, %v", d, b)
	}
}

func TestP104Counts(t *testing.T) {
	for _, a := range samples() {
		set, first, last := 0, 128, -1
		for i := range 128 {
			if bitOf(a, i) == 1 {
				set, first, last = set+1, min(first, i), i
			}
		}
		trail := 127 - last
		if Ones(a) != set || Lead(a) != first || Trail(a) != trail {
			t.Fatalf("%x: Ones %d, Lead %d, Trail %d, want %d, %d, %d", a, Ones(a), Lead(a), Trail(a), set, first, trail)
		}
	}
	zero := api.Word{}
	if Ones(zero) != 0 || Lead(zero) != 128 || Trail(zero) != 128 || Ones(ones) != 128 || Lead(ones) != 0 || Trail(ones) != 0 {
		t.Error("the word 0, or all ones")
	}
	for i := range 128 {
		w := fromBits(func(k int) int {
			if k == i {
				return 1
			}
			return 0
		})
		if Ones(w) != 1 || Lead(w) != i || Trail(w) != 127-i {
			t.Errorf("bit %d alone: %d, %d, %d", i, Ones(w), Lead(w), Trail(w))
		}
	}
}

func TestP104Common(t *testing.T) {
	for _, a := range samples() {
		for _, b := range samples() {
			want := 0
			for want < 128 && bitOf(a, want) == bitOf(b, want) {
				want++
			}
			if got := Common(a, b); got != want {
				t.Fatalf("Common(%x, %x) = %d, want %d", a, b, got, want)
			}
		}
		if Common(a, a) != 128 {
			t.Errorf("Common of %x and itself: %d", a, Common(a, a))
		}
	}
	if Common(api.Word{}, api.Word{Lo: 1}) != 127 || Common(api.Word{}, api.Word{Hi: 1 << 63}) != 0 {
		t.Error("unlike in the last bit, in the first bit")
	}
}

func TestP107AddAndSubUndo(t *testing.T) {
	for _, a := range samples() {
		for _, b := range samples() {
			sum, carry := Add(a, b)
			if back, _ := Sub(sum, b); back != a {
				t.Fatalf("%x and %x do not make the first again", a, b)
			}
			if _, borrow := Sub(sum, a); borrow != carry {
				t.Fatalf("%x and %x: carried %v, borrowed %v", a, b, carry, borrow)
			}
			less, _ := Sub(a, b)
			if back, _ := Add(less, b); back != a {
				t.Fatalf("%x less %x, and that again, is another", a, b)
			}
		}
	}
}

func TestP107ShiftsReckon(t *testing.T) {
	for _, a := range samples() {
		for n := range 140 {
			power := new(big.Int).Lsh(big.NewInt(1), uint(n))
			if want := wordOf(new(big.Int).Mul(number(a), power)); Shl(a, n) != want {
				t.Fatalf("Shl(%x, %d) = %x, want %x", a, n, Shl(a, n), want)
			}
			if want := wordOf(new(big.Int).Quo(number(a), power)); Shr(a, n) != want {
				t.Fatalf("Shr(%x, %d) = %x, want %x", a, n, Shr(a, n), want)
			}
		}
	}
}

func TestP108CountsFitTogether(t *testing.T) {
	for _, a := range samples() {
		if Ones(a)+Ones(Not(a)) != 128 || Ones(a) != bits.OnesCount64(a.Hi)+bits.OnesCount64(a.Lo) {
			t.Fatalf("Ones of %x: %d, of its Not: %d", a, Ones(a), Ones(Not(a)))
		}
		for _, b := range samples() {
			if Common(a, b) != Lead(Xor(a, b)) {
				t.Fatalf("Common(%x, %x) = %d, Lead of Xor: %d", a, b, Common(a, b), Lead(Xor(a, b)))
			}
			at := Common(a, b)
			if got, want := Cmp(a, b), Bit(a, at)-Bit(b, at); got != want {
				t.Fatalf("Cmp(%x, %x) = %d, the first unlike bit says %d", a, b, got, want)
			}
		}
	}
}
