package cost

import (
	"math/big"
	"strings"
	"testing"

	"turnpike/api"
)

// greatest is the text of 2^192 - 1.
const greatest = "6277101735386680763835789423207666416102355444464034512895"

func TestP903Text(t *testing.T) {
	for _, a := range samples() {
		if s, want := Text(a), number(a).String(); s != want {
			t.Fatalf("Text(%v) = %q, want %q", a, s, want)
		}
	}
	for n := range 192 {
		a, _ := Pow(n)
		if s, want := Text(a), number(a).String(); s != want {
			t.Fatalf("Text of 2^%d = %q, want %q", n, s, want)
		}
	}
}

func TestP903TextAtTheEdges(t *testing.T) {
	for n := range uint64(10) {
		if s := Text(Of(n)); s != "0123456789"[n:n+1] {
			t.Errorf("Text of the digit %d = %q", n, s)
		}
	}
	for s, a := range map[string]api.Cost{
		"10": Of(10), "99": Of(99), "100": Of(100), "1000": Of(1000),
		"18446744073709551615": Of(most), "18446744073709551616": {0, 1, 0},
		"340282366920938463463374607431768211455": {0, most, most},
		"340282366920938463463374607431768211456": {1, 0, 0},
		greatest: ones,
	} {
		if x := Text(a); x != s {
			t.Errorf("Text(%v) = %q, want %q", a, x, s)
		}
	}
}

// tenTo is a power of 10.
func tenTo(n int) *big.Int {
	return new(big.Int).Exp(big.NewInt(10), big.NewInt(int64(n)), nil)
}

func TestP903TextOfEachLength(t *testing.T) {
	for n := range 58 {
		least := costOf(tenTo(n))
		if s := Text(least); s != "1"+strings.Repeat("0", n) {
			t.Errorf("10^%d: %q", n, s)
		}
		if n > 0 {
			below := costOf(new(big.Int).Sub(tenTo(n), big.NewInt(1)))
			if s := Text(below); s != strings.Repeat("9", n) {
				t.Errorf("10^%d - 1: %q", n, s)
			}
		}
	}
}

func TestP903Parse(t *testing.T) {
	for _, a := range samples() {
		c, e := Parse(number(a).String())
		expect(t, number(a).String(), c, e, number(a))
	}
	for n := range 58 {
		for digit := '1'; digit <= '9'; digit++ {
			s := string(digit) + strings.Repeat("0", n)
			want, _ := new(big.Int).SetString(s, 10)
			c, e := Parse(s)
			expect(t, s, c, e, want)
		}
	}
}

func TestP903ParseAtTheEdges(t *testing.T) {
	for s, want := range map[string]api.Cost{
		"0": {}, "1": Of(1), "9": Of(9), "10": Of(10),
		"18446744073709551615": Of(most), "18446744073709551616": {0, 1, 0},
		"340282366920938463463374607431768211455": {0, most, most},
		"340282366920938463463374607431768211456": {1, 0, 0},
		greatest:                         ones,
		greatest[:len(greatest)-1] + "4": {most, most, most - 1},
	} {
		if c, e := Parse(s); c != want || e != api.OK {
			t.Errorf("Parse(%q) = %v, %v, want %v", s, c, e, want)
		}
	}
}

// tooWide asks that a text is refused for the size of its number.
func tooWide(t *testing.T, s string) {
	t.Helper()
	c, e := Parse(s)
	refused(t, "Parse of "+s[:min(len(s), 70)], c, e, api.ErrWide)
}

func TestP903ParseTooWide(t *testing.T) {
	for d := range int64(20) {
		tooWide(t, new(big.Int).Add(limit, big.NewInt(d)).String())
	}
	tooWide(t, greatest[:len(greatest)-2]+"99")
	tooWide(t, "7"+strings.Repeat("0", 57))
	tooWide(t, "9"+strings.Repeat("0", 57))
	tooWide(t, strings.Repeat("9", 58))
	tooWide(t, greatest+"0")
	tooWide(t, limit.String()+"0")
	for n := 58; n < 200; n++ {
		tooWide(t, tenTo(n).String())
		tooWide(t, strings.Repeat("9", n))
	}
	// Numbers of which nothing is left, or little, where what does not fit is cut off.
	for n := uint(0); n < 400; n++ {
		over := new(big.Int).Lsh(limit, n)
		tooWide(t, over.String())
		tooWide(t, over.Add(over, big.NewInt(7)).String())
	}
	for n := int64(2); n < 40; n++ {
		tooWide(t, new(big.Int).Mul(limit, big.NewInt(n)).String())
	}
}

func TestP903ParseOfFarLongerTexts(t *testing.T) {
	for _, size := range []int{59, 60, 77, 300, 1000, 1 << 16, 1 << 22} {
		tooWide(t, "1"+strings.Repeat("0", size-1))
		tooWide(t, strings.Repeat("9", size))
		noText(t, "1"+strings.Repeat("0", size-2)+"x")
		noText(t, strings.Repeat("9", size-1)+" ")
		noText(t, strings.Repeat("0", size))
		noText(t, "0"+strings.Repeat("9", size-1))
	}
}

// noText asks that a text is refused as none.
func noText(t *testing.T, s string) {
	t.Helper()
	c, e := Parse(s)
	refused(t, "Parse of "+s[:min(len(s), 70)], c, e, api.ErrSyntax)
}

func TestP903ParseRefused(t *testing.T) {
	for _, s := range []string{
		"", "00", "01", "000", "007", "00000000000000000000", "0" + greatest, "0" + limit.String(),
		"+1", "-1", "+0", "-0", "-", "+", "--1", "+" + greatest, "-" + limit.String(), "1-", "1+1",
		" ", " 1", "1 ", "1 2", "\t1", "1\n", "\n", "1\r\n", "\x00", "1\x00", "\x001",
		"a", "1a", "a1", "0x10", "0b1", "0o7", "1e3", "1E3", "1_000", "1,000", "1.0", ".5", "1.", "1/2", "10:", "/1",
		"one", "inf", "NaN", "\"1\"", "१", "１", "1２", "٣", "²", "1²", "\xff", "1\xb1", "\xb1",
		greatest + " ", limit.String() + "x", "x" + limit.String(), greatest[:30] + " " + greatest[30:],
	} {
		noText(t, s)
	}
}

// TestP903ParseOfAllShortTexts holds every text of one byte and of two against the numbers of one digit and of two.
func TestP903ParseOfAllShortTexts(t *testing.T) {
	numbers := map[string]uint64{}
	for n := range uint64(100) {
		numbers[new(big.Int).SetUint64(n).String()] = n
	}
	asNumber := func(s string) {
		n, ok := numbers[s]
		if !ok {
			noText(t, s)
		} else if c, e := Parse(s); c != Of(n) || e != api.OK {
			t.Fatalf("Parse(%q) = %v, %v", s, c, e)
		}
	}
	for first := range 256 {
		asNumber(string([]byte{byte(first)}))
		for second := range 256 {
			asNumber(string([]byte{byte(first), byte(second)}))
		}
	}
}

func TestP903ParseRefusesBytes(t *testing.T) {
	for _, s := range []string{"12345", greatest, strings.Repeat("9", 100)} {
		for c := range 256 {
			if '0' <= c && c <= '9' {
				continue
			}
			for at := range len(s) {
				b := []byte(s)
				b[at] = byte(c)
				noText(t, string(b))
			}
		}
	}
}
