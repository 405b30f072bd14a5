package share

import (
	"slices"
	"testing"

	"turnpike/api"
	"turnpike/mtrie"
)

// shareOf asks for what Share tells of a right list.
func shareOf(t *testing.T, family int, l []api.Node) []api.Node {
	t.Helper()
	s, e := Share(family, l)
	if e != api.OK {
		t.Fatalf("P1201: Share of %s by %d: %v", textOf(l), family, e)
	}
	return s
}

// TestP1201TheExample: the chapter's first one.
func TestP1201TheExample(t *testing.T) {
	for _, family := range families {
		l := nodesOf("1 0>1 1>2; 1 0=5 1=6; 1 0=5 1=6")
		if s := shareOf(t, family, l); textOf(s) != "1 0>1; 1 0=5 1=6" {
			t.Errorf("P1201: %s", textOf(s))
		}
	}
}

func TestP1201ByHand(t *testing.T) {
	for _, x := range [][2]string{
		// One node alone.
		{"0 0=0", "0 0=0"}, {"0 0=65535", "0 0=65535"}, {"1 0=0", "1 0=0"}, {"1 0=5 1=6", "1 0=5 1=6"}, {"32 0=5 7=6 4294967295=5", "32 0=5 7=6 4294967295=5"},
		// Equal only because those that they lead to are: one level down, and two, and three.
		{"1 0>1 1>2; 1 0>3; 1 0>4; 1 0=7; 1 0=7", "1 0>1; 1 0>2; 1 0=7"},
		{"1 0>1 1>2; 1 0>3; 1 0>4; 1 0>5; 1 0>6; 1 0=7; 1 0=7", "1 0>1; 1 0>2; 1 0>3; 1 0=7"},
		{"1 0>1 1>2; 1 0>3; 1 0>4; 1 0>5; 1 0>6; 1 0>7; 1 0>8; 1 0=7 1=8; 1 0=7 1=8", "1 0>1; 1 0>2; 1 0>3; 1 0>4; 1 0=7 1=8"},
		// On unlike levels: the node 3 is equal to 1, which leads to it not.
		{"1 0>1 1>2; 1 0=1; 1 0>3 1=2; 1 0=1", "1 0>2 1>1; 1 0>2 1=2; 1 0=1"},
		// Three are equal, and two others.
		{"2 0>1 1>2 2>3 3>4; 1 0=1; 1 0=2; 1 0=1; 1 0=1", "2 0>2 1>1 2>2; 1 0=2; 1 0=1"},
		{"3 0>1 1>2 2>3 3>4 4>5; 1 0=1; 1 0=2; 1 0=1; 1 0=1; 1 0=2", "3 0>1 1>2 2>1 4>2; 1 0=1; 1 0=2"},
		// Runs that become one: two, three, four in a row, at the beginning, in between, at the end.
		{"2 0>1 1>2 2=9; 1 0=1; 1 0=1", "2 0>1 2=9; 1 0=1"},
		{"2 0=9 1>1 2>2 3>3; 1 0=1; 1 0=1; 1 0=1", "2 0=9 1>1; 1 0=1"},
		{"3 0=9 1>1 2>2 5>3 6=8; 1 0=1; 1 0=1; 1 0=1", "3 0=9 1>1 6=8; 1 0=1"},
		{"2 0>1 1>2 2>3 3>4; 1 0=1; 1 0=1; 1 0=1; 1 0=1", "2 0>1; 1 0=1"},
		{"3 0>1 1>2 2=0 3>3 4>4 7=1; 1 0=1; 1 0=1; 1 0=1; 1 0=1", "3 0>1 2=0 3>1 7=1; 1 0=1"},
		// Not one, where another run stands between, or where a next hop is that number.
		{"2 0>1 1=3 2>2; 1 0=1; 1 0=1", "2 0>1 1=3 2>1; 1 0=1"},
		{"2 0>1 1=1 2>2; 1 0=1; 1 0=1", "2 0>1 1=1 2>1; 1 0=1"},
		{"1 0>1 1=1; 1 0=1", "1 0>1 1=1; 1 0=1"},
		{"2 0=1 1>2 2>1; 1 0=2; 1 0=2", "2 0=1 1>1; 1 0=2"},
		// Equal by slots alone: by one run and by two that become one.
		{"1 0>1 1>2; 1 0>3 1>4; 1 0>5; 1 0=5 1=6; 1 0=5 1=6; 1 0=5 1=6", "1 0>1; 1 0>2; 1 0=5 1=6"},
		{"2 0>1 1>2 2=1 3>3; 2 0>4 1>5 2>4 3=1; 2 0>4 3=1; 2 0>4 2>5 3=1; 1 0=1; 1 0=1", "2 0>1 2=1 3>1; 2 0>2 3=1; 1 0=1"},
		// Not equal: bits, next hops, where a run begins, what it says, what it leads to.
		{"1 0>1 1>2; 1 0=5; 2 0=5", "1 0>1 1>2; 1 0=5; 2 0=5"}, {"1 0>1 1>2; 1 0=5; 1 0=6", "1 0>1 1>2; 1 0=5; 1 0=6"}, {"1 0>1 1>2; 2 0=5 1=6; 2 0=5 2=6", "1 0>1 1>2; 2 0=5 1=6; 2 0=5 2=6"}, {"1 0>1 1>2; 1 0=5 1=6; 1 0=6 1=5", "1 0>1 1>2; 1 0=5 1=6; 1 0=6 1=5"}, {"1 0>1 1>2; 1 0>3 1=3; 1 0=3 1>3; 1 0=3", "1 0>1 1>2; 1 0>3 1=3; 1 0=3 1>3; 1 0=3"}, {"1 0>1 1>2; 1 0>3; 1 0=3; 1 0=3", "1 0>1 1>2; 1 0>2; 1 0=3"},
		// Out of order: the first run's node comes first; each stands ahead of those to which it leads, whatever run leads there.
		{"2 0>3 1>2 2>1; 1 0=1; 1 0=2; 1 0=3", "2 0>1 1>2 2>3; 1 0=3; 1 0=2; 1 0=1"},
		{"1 0>2 1>1; 1 0>2 1=1; 1 0=3", "1 0>2 1>1; 1 0>2 1=1; 1 0=3"},
		{"2 0>3 1>1 2>2; 1 0>3; 1 0=1; 1 0=4 1=9", "2 0>2 1>1 2>3; 1 0>2; 1 0=4 1=9; 1 0=1"},
		{"1 0>1 1>2; 1 0>4 1=9; 1 0>3 1>4; 1 0=1; 1 0=2", "1 0>1 1>2; 1 0>4 1=9; 1 0>3 1>4; 1 0=1; 1 0=2"},
		{"1 0>1 1>2; 1 0>4 1>3; 1 0=0 1=1; 1 0=2 1=3; 1 0=4 1=5", "1 0>1 1>4; 1 0>2 1>3; 1 0=4 1=5; 1 0=2 1=3; 1 0=0 1=1"},
		{"2 0>1 1>2 2>3 3>4; 1 0>4 1=1; 1 0>4 1=2; 1 0>4 1=3; 1 0=9", "2 0>1 1>2 2>3 3>4; 1 0>4 1=1; 1 0>4 1=2; 1 0>4 1=3; 1 0=9"},
		{"2 0>4 1>3 2>2 3>1; 1 0>4 1=1; 1 0>4 1=2; 1 0>4 1=3; 1 0=9", "2 0>4 1>1 2>2 3>3; 1 0>4 1=3; 1 0>4 1=2; 1 0>4 1=1; 1 0=9"},
		// The first run leads to a node that the last one's way comes to first.
		{"1 0>2 1>1; 1 0=1 1>3; 1 0=2 1>3; 1 0=3", "1 0>1 1>2; 1 0=2 1>3; 1 0=1 1>3; 1 0=3"},
	} {
		for _, family := range families {
			l := nodesOf(x[0])
			if s := shareOf(t, family, l); textOf(s) != x[1] {
				t.Errorf("P1201: %s by %d: %s, want %s", x[0], family, textOf(s), x[1])
			}
			if want := textOf(shared(l)); want != x[1] {
				t.Errorf("%s: what the tests know is %s", x[0], want)
			}
		}
	}
}

// TestP1201ManyBits: nodes of up to 128 bits, whose runs begin at slots that differ in one bit.
func TestP1201ManyBits(t *testing.T) {
	for _, x := range [][2]string{
		{"128 0=1 0x80000000000000000000000000000000=2", "128 0=1 170141183460469231731687303715884105728=2"},
		{"1 0>1 1>2; 127 0=1 0x10000000000000000=2; 127 0=1 0x10000000000000000=2", "1 0>1; 127 0=1 18446744073709551616=2"},
		{"1 0>1 1>2; 127 0=1 0x10000000000000000=2; 127 0=1 1=2", "1 0>1 1>2; 127 0=1 18446744073709551616=2; 127 0=1 1=2"},
		{"64 0>1 1>2 0xffffffffffffffff>3; 64 0=1; 64 0=2; 64 0=1", "64 0>2 1>1 18446744073709551615>2; 64 0=2; 64 0=1"},
	} {
		if s := shareOf(t, 128, nodesOf(x[0])); textOf(s) != x[1] {
			t.Errorf("P1201: %s: %s", x[0], textOf(s))
		}
	}
	for bits := 2; bits < 128; bits++ {
		for at := range bits {
			from := fill(fill("", at, "0")+"1", bits, "0")
			a := api.Node{Bits: bits, Runs: []api.Run{{N: 1}, {From: slotOf(from), N: 2}}}
			if s := shareOf(t, 128, append(nodesOf("1 0>1 1>2"), a, a)); len(s) != 2 || len(s[0].Runs) != 1 {
				t.Fatalf("P1201: two of %d bits: %s", bits, textOf(s))
			}
			b := cloned([]api.Node{a})[0]
			b.Runs[1].From = slotOf(turned(from, (at+1)%bits))
			if s := shareOf(t, 128, append(nodesOf("1 0>1 1>2"), a, b)); len(s) != 3 || len(s[0].Runs) != 2 {
				t.Fatalf("P1201: two of %d bits that are unlike: %s", bits, textOf(s))
			}
		}
	}
}

// turned is a text with one of its signs the other one.
func turned(s string, at int) string {
	b := []byte(s)
	b[at] ^= 1
	return string(b)
}

// isShared asks that Share tells what the chapter says of a right list.
func isShared(t *testing.T, family int, l []api.Node) {
	t.Helper()
	if s, want := shareOf(t, family, l), shared(l); !like(s, want) {
		t.Fatalf("P1201: Share of %s by %d:\n%s, want\n%s", textOf(l), family, textOf(s), textOf(want))
	}
}

// TestP1201SmallLists: all lists of up to four nodes of 1 bit, and some of five.
func TestP1201SmallLists(t *testing.T) {
	count := 0
	for size := 1; size <= 4; size++ {
		for l := range smallLists(size) {
			count++
			isShared(t, families[count%2], l)
		}
	}
	next := counter()
	for l := range smallLists(5) {
		if next()%16 == 0 {
			isShared(t, families[next()%2], l)
		}
	}
	if count < 1000 {
		t.Errorf("only %d lists", count)
	}
}

// TestP1201AsTheChapterSays: right lists of all kinds.
func TestP1201AsTheChapterSays(t *testing.T) {
	for _, family := range families {
		for _, l := range samples(family) {
			isShared(t, family, l)
		}
	}
}

// TestP1201Families: what is right for 32 is shared alike by 128.
func TestP1201Families(t *testing.T) {
	for _, l := range samples(32) {
		if a, b := shareOf(t, 32, l), shareOf(t, 128, l); !like(a, b) {
			t.Fatalf("P1201: %s: %s, by 128 %s", textOf(l), textOf(a), textOf(b))
		}
	}
}

// wrong are lists that are not right, with mtrie.Check's errors by 32 and by 128.
var wrong = []struct {
	text      string
	four, six api.Errno
}{
	{"", api.ErrNone, api.ErrNone},
	{"-1 0=1", api.ErrArg, api.ErrArg}, {"129 0=1", api.ErrArg, api.ErrArg}, {"1 0>1; 0 0=1", api.ErrArg, api.ErrArg}, {"0 0>1; 1 0=1", api.ErrArg, api.ErrArg},
	{"0", api.ErrOrder, api.ErrOrder}, {"1", api.ErrOrder, api.ErrOrder}, {"1 1=1", api.ErrOrder, api.ErrOrder}, {"1 0=1 0=2", api.ErrOrder, api.ErrOrder}, {"1 0=1 2=2", api.ErrOrder, api.ErrOrder}, {"1 0=1 1=1", api.ErrOrder, api.ErrOrder}, {"1 0>1 1>1; 1 0=1", api.ErrOrder, api.ErrOrder}, {"1 0>1 1>2; 1 0=1; 2 0=1 2=2 1=3", api.ErrOrder, api.ErrOrder},
	{"1 0=-1", api.ErrHop, api.ErrHop}, {"1 0=65536", api.ErrHop, api.ErrHop}, {"1 0>1 1>2; 1 0=1; 1 0=65536", api.ErrHop, api.ErrHop},
	{"0 0>0", api.ErrJump, api.ErrJump}, {"1 0>0", api.ErrJump, api.ErrJump}, {"1 0>1", api.ErrJump, api.ErrJump}, {"1 0>-1", api.ErrJump, api.ErrJump}, {"1 0>1; 1 0>1", api.ErrJump, api.ErrJump}, {"1 0>1; 1 0>0", api.ErrJump, api.ErrJump}, {"1 0>1 1>2; 1 0=1; 1 0>3", api.ErrJump, api.ErrJump},
	{"1 0=1; 1 0=1", api.ErrUnused, api.ErrUnused}, {"1 0>2; 1 0>2; 1 0=1", api.ErrUnused, api.ErrUnused}, {"1 0>1; 1 0=1; 1 0=1", api.ErrUnused, api.ErrUnused},
	{"33 0=1", api.ErrBits, api.OK}, {"128 0=1", api.ErrBits, api.OK}, {"17 0>1; 16 0=1", api.ErrBits, api.OK}, {"100 0>1; 100 0=1", api.ErrBits, api.ErrBits}, {"1 0>1; 128 0=1", api.ErrBits, api.ErrBits}, {"128 0>1; 1 0=1", api.ErrBits, api.ErrBits},
	// Several faults.
	{"129 1=65536", api.ErrArg, api.ErrArg}, {"1 0>0; 129 0=1", api.ErrJump, api.ErrJump}, {"100 0>1; 100 0=1; 1 0=1", api.ErrUnused, api.ErrUnused}, {"128 0>1; 128 0>2; 1", api.ErrOrder, api.ErrOrder},
}

func TestP1201Wrong(t *testing.T) {
	for _, x := range wrong {
		for family, want := range map[int]api.Errno{32: x.four, 128: x.six} {
			if want == api.OK {
				continue
			}
			if s, e := Share(family, nodesOf(x.text)); len(s) != 0 || e != want {
				t.Errorf("P1201: %s by %d: %v, %v, want %v", x.text, family, s, e, want)
			}
		}
		for _, family := range noFamilies {
			if s, e := Share(family, nodesOf(x.text)); len(s) != 0 || e != api.ErrFamily {
				t.Errorf("P1201: %s by %d: %v, %v", x.text, family, s, e)
			}
		}
	}
	for _, family := range noFamilies {
		if s, e := Share(family, nodesOf("1 0>1 1>2; 1 0=1; 1 0=1")); len(s) != 0 || e != api.ErrFamily {
			t.Errorf("P1201: by %d: %v, %v", family, s, e)
		}
	}
}

// spoil changes a list in one place, so that it may not be right.
func spoil(next func() uint64, l []api.Node) []api.Node {
	l = cloned(l)
	n := &l[next()%uint64(len(l))]
	at := next() % uint64(len(n.Runs))
	r := &n.Runs[at]
	switch next() % 9 {
	case 0:
		n.Bits = []int{-1, 0, 129, 1, 128, n.Bits + 1}[next()%6]
	case 1:
		r.N = []int{-1, 65535, 65536, 0, 1, len(l) - 1, len(l)}[next()%7]
	case 2:
		r.Kid = !r.Kid
	case 3:
		r.From = api.Word{Hi: next() % 2, Lo: next() % 3}
	case 4:
		*r = n.Runs[0]
	case 5:
		n.Runs = slices.Delete(n.Runs, int(at), int(at)+1)
	case 6:
		l = append(l, api.Node{Bits: 1, Runs: []api.Run{{}}})
	case 7:
		l = l[:len(l)-1]
	case 8:
		r.Kid, r.N = true, int(next()%uint64(len(l)))
	}
	return l
}

// TestWrongAsTheChapterSays: of lists without a pattern, most of them not right, the errors of all three calls are those of mtrie.Check.
func TestWrongAsTheChapterSays(t *testing.T) {
	next := counter()
	seen := map[api.Errno]int{}
	for range 20000 {
		l := spoil(next, someList(next, 32))
		for _, family := range []int{32, 128, 64} {
			_, want := mtrie.Check(family, l)
			seen[want]++
			if s, e := Share(family, l); e != want || e != api.OK && len(s) != 0 {
				t.Fatalf("P1201: Share of %s by %d: %v, %v, want %v", textOf(l), family, s, e, want)
			}
		}
		_, want := mtrie.Check(128, l)
		if want == api.OK {
			continue
		}
		for _, n := range []int{-1, 0, len(l) - 1, len(l)} {
			if ok, e := Equal(l, 0, n); ok || e != want {
				t.Fatalf("P1202: Equal of %s: %v, %v, want %v", textOf(l), ok, e, want)
			}
			if s, e := Whole(l, n); len(s) != 0 || e != want {
				t.Fatalf("P1203: Whole of %s: %v, %v, want %v", textOf(l), s, e, want)
			}
		}
	}
	for _, e := range []api.Errno{api.OK, api.ErrNone, api.ErrFamily, api.ErrArg, api.ErrOrder, api.ErrHop, api.ErrJump, api.ErrUnused} {
		if seen[e] < 100 {
			t.Errorf("only %d lists of %v", seen[e], e)
		}
	}
}
