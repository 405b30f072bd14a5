package cost

import (
	"slices"
	"testing"

	"turnpike/api"
)

// few are samples, not so many that all rows of three could not be gone over.
func few() []api.Cost {
	l := []api.Cost{{}, Of(1), Of(most), {0, 1, 0}, {0, most, most}, {1, 0, 0}, {1 << 62, 0, 0}, {1 << 63, 0, 0}, {1<<63 - 1, most, most}, ones}
	next := noise()
	for range 4 {
		l = append(l, api.Cost{next() >> 2, next(), next()}, api.Cost{0, next(), next()})
	}
	return l
}

// sum adds one behind the other, till one sum does not fit.
func sum(l ...api.Cost) (api.Cost, api.Errno) {
	var all api.Cost
	for _, c := range l {
		var e api.Errno
		if all, e = Add(all, c); e != api.OK {
			return all, e
		}
	}
	return all, api.OK
}

func TestP904SumsKnowNoOrder(t *testing.T) {
	for _, a := range samples() {
		for _, b := range samples() {
			one, e := Add(a, b)
			other, f := Add(b, a)
			if one != other || e != f {
				t.Fatalf("Add(%v, %v) = %v, %v; turned round %v, %v", a, b, one, e, other, f)
			}
		}
	}
	for _, a := range few() {
		for _, b := range few() {
			for _, c := range few() {
				want, e := sum(a, b, c)
				for _, l := range [][]api.Cost{{a, c, b}, {b, a, c}, {b, c, a}, {c, a, b}, {c, b, a}} {
					if s, f := sum(l...); s != want || f != e {
						t.Fatalf("the sum of %v, %v, %v = %v, %v; in the order %v %v, %v", a, b, c, want, e, l, s, f)
					}
				}
			}
		}
	}
}

func TestP904SumsOfSums(t *testing.T) {
	for _, a := range few() {
		for _, b := range few() {
			for _, c := range few() {
				want, e := sum(a, b, c)
				late, f := Add(b, c)
				if f == api.OK {
					late, f = Add(a, late)
				}
				if late != want || f != e {
					t.Fatalf("%v, %v, %v: %v, %v; the last two first: %v, %v", a, b, c, want, e, late, f)
				}
			}
		}
	}
}

func TestP904MulIsAddSoOften(t *testing.T) {
	for _, a := range samples() {
		var added api.Cost
		e := api.OK
		for n := range uint64(300) {
			if product, f := Mul(a, n); product != added || f != e {
				t.Fatalf("Mul(%v, %d) = %v, %v; added up %v, %v", a, n, product, f, added, e)
			}
			if e == api.OK {
				added, e = Add(added, a)
			}
		}
	}
}

// TestP904MulIsOneAddMore goes on where nobody could count from 0 on.
func TestP904MulIsOneAddMore(t *testing.T) {
	for _, a := range samples() {
		for _, n := range factors() {
			if n == most {
				continue
			}
			want, e := Mul(a, n)
			if e == api.OK {
				want, e = Add(want, a)
			}
			if more, f := Mul(a, n+1); more != want || f != e {
				t.Fatalf("Mul(%v, %d) = %v, %v; one Add behind the one ahead: %v, %v", a, n+1, more, f, want, e)
			}
		}
	}
}

func TestP904MulOfSums(t *testing.T) {
	for _, a := range samples() {
		for _, n := range factors() {
			for _, m := range []uint64{1, 2, 255, 1 << 32, most - n} {
				if n > most-m {
					continue
				}
				first, e := Mul(a, n)
				second, f := Mul(a, m)
				want, g := Add(first, second)
				if e != api.OK || f != api.OK {
					want, g = api.Cost{}, api.ErrWide
				}
				if all, h := Mul(a, n+m); all != want || h != g {
					t.Fatalf("Mul(%v, %d and %d) = %v, %v, want %v, %v", a, n, m, all, h, want, g)
				}
			}
		}
	}
}

func TestP904ParseOfText(t *testing.T) {
	same := func(a api.Cost) {
		t.Helper()
		if back, e := Parse(Text(a)); back != a || e != api.OK {
			t.Fatalf("Parse of Text of %v = %v, %v", a, back, e)
		}
	}
	for _, a := range samples() {
		same(a)
	}
	for n := range 192 {
		a, _ := Pow(n)
		same(a)
	}
	for n := range uint64(20000) {
		same(Of(n))
		same(api.Cost{0, n, n})
		same(api.Cost{n, 0, most - n})
	}
	next := noise()
	for range 20000 {
		same(api.Cost{next(), next(), next()})
	}
}

func TestP904TextOfParse(t *testing.T) {
	for _, s := range []string{"0", "7", "10", "100000000000000000000", "12345678901234567890123456789012345678901234567890", greatest} {
		a, e := Parse(s)
		if back := Text(a); back != s || e != api.OK {
			t.Errorf("Text of Parse of %q = %q, %v", s, back, e)
		}
	}
}

func TestP904PowersOfTheHalfOne(t *testing.T) {
	power, e := Pow(0)
	if power != Of(1) || e != api.OK {
		t.Fatalf("Pow(0) = %v, %v", power, e)
	}
	for n := 1; n < 192; n++ {
		half := power
		power, e = Pow(n)
		if twice, f := Add(half, half); twice != power || f != api.OK || e != api.OK {
			t.Fatalf("2^%d and itself = %v, %v; Pow(%d) = %v, %v", n-1, twice, f, n, power, e)
		}
		if twice, f := Mul(half, 2); twice != power || f != api.OK {
			t.Fatalf("2^%d twice = %v, %v, want %v", n-1, twice, f, power)
		}
		if Cmp(half, power) != -1 {
			t.Fatalf("2^%d is not below 2^%d", n-1, n)
		}
	}
	c, e := Add(power, power)
	refused(t, "2^191 and itself", c, e, api.ErrWide)
}

func TestExamples(t *testing.T) {
	if c, e := Pow(64); c != (api.Cost{0, 1, 0}) || e != api.OK {
		t.Errorf("Pow(64) = %v, %v", c, e)
	}
	if c, _ := Pow(128); Text(c) != "340282366920938463463374607431768211456" {
		t.Errorf("Text of Pow(128) = %s", Text(c))
	}
	c, e := Add(ones, Of(1))
	refused(t, "Add(all ones, Of(1))", c, e, api.ErrWide)
	c, e = Parse("01")
	refused(t, "Parse(01)", c, e, api.ErrSyntax)
	if at := Least(); at != -1 {
		t.Errorf("Least() = %d", at)
	}
}

// all is what each call answers of each sample.
func all(l []api.Cost) []api.Cost {
	var answers []api.Cost
	for i, a := range l {
		b := l[len(l)-1-i]
		sum, e := Add(a, b)
		product, f := Mul(a, b[2])
		back, g := Parse(Text(a))
		answers = append(answers, sum, product, back, api.Cost{uint64(e), uint64(f), uint64(g)}, api.Cost{uint64(Cmp(a, b) + 1), uint64(Least(a, b)), 0})
	}
	return answers
}

func TestP3SameCallsAnswerTheSame(t *testing.T) {
	first := all(samples())
	// Calls that are refused lie between: they leave nothing behind.
	Parse(limit.String())
	Parse("01")
	Pow(192)
	Mul(ones, 2)
	if !slices.Equal(first, all(samples())) {
		t.Error("the same calls answered otherwise")
	}
}
