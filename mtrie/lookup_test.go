package mtrie

import (
	"math/big"
	"testing"

	"turnpike/addr"
	"turnpike/api"
)

// answered tells what the chapter says of an address, told as a text, in a right list: run by run.
func answered(l []api.Node, s string) int {
	i, met := 0, 0
	for {
		n := l[i]
		v := new(big.Int)
		if n.Bits > 0 {
			v.SetString(s[met:met+n.Bits], 2)
		}
		met += n.Bits
		var holds api.Run
		for _, r := range n.Runs {
			if numberOf(r.From).Cmp(v) <= 0 {
				holds = r
			}
		}
		if !holds.Kid {
			return holds.N
		}
		i = holds.N
	}
}

// isAnswered asks that Lookup tells this.
func isAnswered(t *testing.T, family int, l []api.Node, s string, want int) {
	t.Helper()
	if h, e := Lookup(family, l, ofBits(s)); h != want || e != api.OK {
		t.Fatalf("P1103: %v: Lookup of %s: %d, %v, want %d", l, s, h, e, want)
	}
}

func TestP1103ByHand(t *testing.T) {
	for _, x := range []struct {
		text, at string
		want     int
	}{
		{"0 0=9", "0.0.0.0", 9}, {"0 0=0", "255.255.255.255", 0}, {"0 0=65535", "1.2.3.4", 65535},
		{"1 0=1 1=0", "127.255.255.255", 1}, {"1 0=1 1=0", "128.0.0.0", 0}, {"1 0=3", "200.0.0.0", 3},
		{"2 0=1 1=9", "63.255.255.255", 1}, {"2 0=1 1=9", "64.0.0.0", 9}, {"2 0=1 1=9", "255.0.0.0", 9},
		{"1 0>1 1=9; 1 0=1 1=9", "0.0.0.0", 1}, {"1 0>1 1=9; 1 0=1 1=8", "64.0.0.0", 8}, {"1 0>1 1=9; 1 0=1 1=8", "192.0.0.0", 9},
		{"32 0=1 167838211=4 167838212=5", "10.1.2.2", 1}, {"32 0=1 167838211=4 167838212=5", "10.1.2.3", 4}, {"32 0=1 167838211=4 167838212=5", "10.1.2.4", 5}, {"32 0=1 4294967295=4", "255.255.255.254", 1}, {"32 0=1 4294967295=4", "255.255.255.255", 4},
		{"8 0=0 10>1 11=1 12=0; 24 0=1 66051=4 66052=1", "10.1.2.3", 4}, {"8 0=0 10>1 11=1 12=0; 24 0=2 66051=4 66052=3", "10.1.2.2", 2}, {"8 0=0 10>1 11=1 12=0; 24 0=2 66051=4 66052=3", "10.1.2.4", 3}, {"8 0=0 10>1 11=1 12=0; 24 0=2 66051=4 66052=3", "11.255.255.255", 1}, {"8 0=0 10>1 11=1 12=0; 24 0=2 66051=4 66052=3", "12.0.0.0", 0},
		// Two ways to one node: it takes the bits that come next, by either.
		{"1 0>1 1>2; 3 0>2 1=5; 4 0=6 9=7", "144.0.0.0", 6}, {"1 0>1 1>2; 3 0>2 1=5; 4 0=6 9=7", "200.0.0.0", 7}, {"1 0>1 1>2; 3 0>2 1=5; 4 0=6 9=7", "9.0.0.0", 7}, {"1 0>1 1>2; 3 0>2 1=5; 4 0=6 9=7", "8.255.255.255", 6}, {"1 0>1 1>2; 3 0>2 1=5; 4 0=6 9=7", "16.0.0.0", 5},
	} {
		w, e := addr.Parse(32, x.at)
		if e != api.OK {
			t.Fatal(x.at)
		}
		if h, e := Lookup(32, nodesOf(x.text), w); h != x.want || e != api.OK {
			t.Errorf("P1103: %s: Lookup of %s: %d, %v, want %d", x.text, x.at, h, e, x.want)
		}
	}
	for s, want := range map[string]int{"::": 1, "::ffff:ffff:ffff:ffff": 2, "0:0:0:1::": 3, "7fff::": 3, "8000::": 4, "8000::1": 3, "ffff:ffff:ffff:ffff:ffff:ffff:ffff:ffff": 5, "ffff:ffff:ffff:ffff:ffff:ffff:ffff:fffe": 3} {
		w, e := addr.Parse(128, s)
		l := nodesOf("128 0=1 1=2 0x10000000000000000=3 0x80000000000000000000000000000000=4 0x80000000000000000000000000000001=3 0xffffffffffffffffffffffffffffffff=5")
		if h, f := Lookup(128, l, w); h != want || e != api.OK || f != api.OK {
			t.Errorf("P1103: Lookup of %s: %d, %v, want %d", s, h, f, want)
		}
	}
}

// TestP1103AsTheChapterSays: right lists without a pattern: the first and the last address of runs, and those beside them, on ways without a pattern.
func TestP1103AsTheChapterSays(t *testing.T) {
	next := counter()
	asked, deep := 0, 0
	for range 3000 {
		l := rightList(next)
		for _, family := range families {
			depth, e := checked(family, l)
			if e != api.OK {
				continue
			}
			for range 6 {
				s := wayDown(next, family, l)
				isAnswered(t, family, l, s, answered(l, s))
				for _, beside := range []func(string) (string, bool){ahead, behind} {
					if other, ok := beside(s); ok {
						isAnswered(t, family, l, other, answered(l, other))
					}
				}
				asked++
			}
			deep = max(deep, depth)
		}
	}
	if asked < 1000 || deep < 5 {
		t.Errorf("only %d ways, %d nodes deep", asked, deep)
	}
}

// wayDown makes an address that meets a run's first or last slot at each node, or any one.
func wayDown(next func() uint64, family int, l []api.Node) string {
	s := ""
	for i := 0; ; {
		n := l[i]
		at := int(next() % uint64(len(n.Runs)))
		v := spell(n.Runs[at].From, 128)[128-n.Bits:]
		last := fill("", n.Bits, "1")
		if at+1 < len(n.Runs) {
			last, _ = ahead(spell(n.Runs[at+1].From, 128)[128-n.Bits:])
		}
		if next()%2 == 0 {
			v = last
		}
		s += v
		if !n.Runs[at].Kid {
			return fill(s, family, []string{"0", "1"}[next()%2])
		}
		i = n.Runs[at].N
	}
}

// TestP1103Wide: a word that is no address; Check's error comes first.
func TestP1103Wide(t *testing.T) {
	for _, text := range []string{"0 0=9", "1 0=1 1=2", "32 0=1", "8 0>1; 24 0=2"} {
		for i := 32; i < 128; i++ {
			w := ofBits(fill("", i, "0") + "1")
			if h, e := Lookup(32, nodesOf(text), w); h != 0 || e != api.ErrWide {
				t.Errorf("P1103: %s: bit %d: %d, %v", text, i, h, e)
			}
			if _, e := Lookup(128, nodesOf(text), w); e != api.OK {
				t.Errorf("P1103: %s: bit %d: %v", text, i, e)
			}
		}
		for _, w := range []api.Word{lastSix, {Hi: 1}, {Lo: 1}, {Hi: 1 << 31}} {
			if h, e := Lookup(32, nodesOf(text), w); h != 0 || e != api.ErrWide {
				t.Errorf("P1103: %s: %v: %d, %v", text, w, h, e)
			}
		}
	}
}

// TestP1103WrongLists: Check's error, whatever the word is.
func TestP1103WrongLists(t *testing.T) {
	next := counter()
	seen := map[api.Errno]int{}
	for i := range 8000 {
		l := rightList(next)
		for range i % 3 {
			if len(l) > 0 {
				l = spoil(next, l)
			}
		}
		family := append(families, noFamilies...)[next()%8%4]
		_, want := checked(family, l)
		for _, w := range []api.Word{{}, {Hi: next() << 32}, {Hi: next(), Lo: next()}, lastSix} {
			h, e := Lookup(family, l, w)
			switch {
			case want != api.OK:
				if h != 0 || e != want {
					t.Fatalf("P1103: %v by %d: Lookup of %v: %d, %v, want %v", l, family, w, h, e, want)
				}
			case family == 32 && (w.Hi<<32 != 0 || w.Lo != 0):
				if h != 0 || e != api.ErrWide {
					t.Fatalf("P1103: Lookup of %v: %d, %v", w, h, e)
				}
			default:
				isAnswered(t, family, l, spell(w, family), answered(l, spell(w, family)))
			}
			seen[e]++
		}
	}
	for _, e := range []api.Errno{api.OK, api.ErrFamily, api.ErrNone, api.ErrArg, api.ErrOrder, api.ErrHop, api.ErrJump, api.ErrUnused, api.ErrBits, api.ErrWide} {
		if seen[e] < 50 {
			t.Errorf("only %d lookups with %v", seen[e], e)
		}
	}
}
