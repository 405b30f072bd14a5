package share

import (
	"math"
	"math/big"
	"slices"
	"strings"
	"testing"

	"turnpike/api"
	"turnpike/mtrie"
)

// answered is the answer of a right list for an address as a text, by the chapter's words.
func answered(l []api.Node, s string) int {
	n := l[0]
	for {
		r := holds(n, s[:n.Bits])
		if !r.Kid {
			return r.N
		}
		s = s[n.Bits:]
		n = l[r.N]
	}
}

// wayDown is an address that goes down some way: at each node by the first slot of a run, by its last one, or by the one ahead of it or behind.
func wayDown(next func() uint64, family int, l []api.Node) string {
	s := ""
	for i := 0; ; {
		n := l[i]
		v := spell(n.Runs[next()%uint64(len(n.Runs))].From, 128)[128-n.Bits:]
		if other, ok := ahead(v); ok && next()%2 == 0 {
			v = other
		}
		if other, ok := behind(v); ok && next()%4 == 0 {
			v = other
		}
		s += v
		r := holds(n, v)
		if !r.Kid {
			return s + spell(api.Word{Hi: next(), Lo: next()}, family-len(s))
		}
		i = r.N
	}
}

// answersAlike asks that two lists answer an address alike.
func answersAlike(t *testing.T, family int, a, b []api.Node, s string) {
	t.Helper()
	want := answered(a, s)
	h, e := mtrie.Lookup(family, b, ofBits(s))
	if got := answered(b, s); got != want || h != want || e != api.OK {
		t.Fatalf("P1204: %s is answered %d, %d, %v, want %d: %s\n%s", s, got, h, e, want, textOf(b), textOf(a))
	}
}

// isApart asks that no two nodes of a list are equal.
func isApart(t *testing.T, l []api.Node) {
	t.Helper()
	x := equalsOf(l)
	for a := range l {
		for b := range a {
			if x.are(a, b) {
				t.Fatalf("P1204: %d and %d are equal: %s", a, b, textOf(l))
			}
			if ok, e := Equal(l, a, b); ok || e != api.OK {
				t.Fatalf("P1204: Equal of %d and %d: %v, %v: %s", a, b, ok, e, textOf(l))
			}
		}
	}
}

// follows asks for what P1204 says of a right list.
func follows(t *testing.T, next func() uint64, family int, l []api.Node) {
	t.Helper()
	s := shareOf(t, family, l)
	depth, _ := mtrie.Check(family, l)
	if d, e := mtrie.Check(family, s); d != depth || e != api.OK {
		t.Fatalf("P1204: Share of %s is not right: %s: %d, %v", textOf(l), textOf(s), d, e)
	}
	if len(s) < 60 {
		isApart(t, s)
	}
	if again := shareOf(t, family, s); !like(again, s) {
		t.Fatalf("P1204: Share of %s: %s", textOf(s), textOf(again))
	}
	for range 20 {
		answersAlike(t, family, l, s, wayDown(next, family, l))
		answersAlike(t, family, l, s, wayDown(next, family, s))
		answersAlike(t, family, l, s, spell(api.Word{Hi: next(), Lo: next()}, family))
	}
	const most = 5000
	whole, e := Whole(l, most)
	if tooMany := sizeBy(l).Cmp(big.NewInt(most)) > 0; tooMany != (e == api.ErrLong) || !tooMany && e != api.OK {
		t.Fatalf("P1203: %v nodes: %v", sizeBy(l), e)
	}
	if e != api.OK {
		return
	}
	if x := shareOf(t, family, whole); !like(x, s) {
		t.Fatalf("P1204: Share of Whole of %s: %s, want %s", textOf(l), textOf(x), textOf(s))
	}
	// What is shared makes the same tree, but for the runs that have become one.
	if back := wholeOf(t, s, most); !like(shareOf(t, family, back), s) {
		t.Fatalf("P1204: %s: %s", textOf(s), textOf(back))
	}
	for range 5 {
		answersAlike(t, family, l, whole, wayDown(next, family, l))
	}
}

func TestP1204(t *testing.T) {
	next := counter()
	for _, family := range families {
		for _, l := range samples(family) {
			follows(t, next, family, l)
		}
	}
}

// TestP1204SmallLists: all lists of up to four nodes of 1 bit, by addresses of all first bits.
func TestP1204SmallLists(t *testing.T) {
	count := 0
	for size := 1; size <= 4; size++ {
		for l := range smallLists(size) {
			count++
			family := families[count%2]
			s := shareOf(t, family, l)
			isApart(t, s)
			if again := shareOf(t, family, s); !isRight(family, s) || !like(again, s) {
				t.Fatalf("P1204: Share of %s: %s, %s", textOf(l), textOf(s), textOf(again))
			}
			if x := shareOf(t, family, wholeOf(t, l, 100)); !like(x, s) {
				t.Fatalf("P1204: Share of Whole of %s: %s, want %s", textOf(l), textOf(x), textOf(s))
			}
			for bits := range uint64(1 << 4) {
				answersAlike(t, family, l, s, fill(spell(api.Word{Hi: bits << 60}, 4), family, "0"))
			}
		}
	}
}

// TestP1205: lists that make the same tree: nodes in other orders, and some of those that several runs lead to laid out.
func TestP1205(t *testing.T) {
	next := counter()
	others := 0
	for _, family := range families {
		for _, l := range samples(family) {
			if len(l) > 70 {
				continue
			}
			s := shareOf(t, family, l)
			for range 4 {
				other := shuffled(next, l)
				for range next() % 6 {
					other = apart(next, other, false)
				}
				if len(other) != len(l) || !like(other, l) {
					others++
				}
				if x := shareOf(t, family, other); !like(x, s) {
					t.Fatalf("P1205: Share of %s: %s; of %s: %s", textOf(l), textOf(s), textOf(other), textOf(x))
				}
				if sizeBy(l).Cmp(big.NewInt(200)) < 0 && !like(wholeOf(t, l, 200), wholeOf(t, other, 200)) {
					t.Fatalf("P1203: Whole of %s and of %s are two", textOf(l), textOf(other))
				}
			}
		}
	}
	if others < 3000 {
		t.Errorf("only %d lists are made otherwise", others)
	}
}

// TestP1205SmallLists: of all lists of up to four nodes, those that have the same Whole have the same Share.
func TestP1205SmallLists(t *testing.T) {
	shares := map[string]string{}
	count := 0
	for size := 1; size <= 4; size++ {
		for l := range smallLists(size) {
			tree, s := textOf(wholeOf(t, l, 100)), textOf(shareOf(t, 32, l))
			if was, ok := shares[tree]; ok {
				count++
				if was != s {
					t.Fatalf("P1205: the lists that make %s have two: %s, %s", tree, was, s)
				}
			}
			shares[tree] = s
		}
	}
	if count < 500 {
		t.Errorf("only %d lists make a tree that another one makes", count)
	}
}

// TestP1201PartsOfRuns: a run that is parted in two, which lead to equal nodes, is one again.
func TestP1201PartsOfRuns(t *testing.T) {
	next := counter()
	parted := 0
	for _, family := range families {
		for _, l := range samples(family) {
			if len(l) > 70 {
				continue
			}
			other := l
			for range 1 + next()%5 {
				other = apart(next, other, true)
			}
			if len(other) > len(l) {
				parted++
			}
			if a, b := shareOf(t, family, l), shareOf(t, family, other); !like(a, b) {
				t.Fatalf("P1201: Share of %s: %s; of %s: %s", textOf(l), textOf(a), textOf(other), textOf(b))
			}
		}
	}
	if parted < 800 {
		t.Errorf("only %d lists have runs that are parted", parted)
	}
}

// TestP2HandedIn: what is handed in is not changed, its spare room neither; what is wrong as well.
func TestP2HandedIn(t *testing.T) {
	next := counter()
	for i := range 3000 {
		family := families[i%2]
		l := someList(next, family)
		if i%3 == 0 {
			l = spoil(next, l)
		}
		handed, asTheyWere := guardedNodes(l)
		Share(family, handed)
		Equal(handed, int(next()%3), int(next()%6)-1)
		Whole(handed, int(next()%1000)-5)
		if !asTheyWere() {
			t.Fatalf("P2: nodes that are handed in are changed: %s", textOf(l))
		}
	}
}

// overwrite puts marks over all of a list, its spare room too.
func overwrite[T any](l []T, mark T) {
	l = l[:cap(l)]
	for i := range l {
		l[i] = mark
	}
}

// isNew asks that an answer is new memory, and that no two lists of it share any: whatever becomes of one of them, of what was handed in, of another answer, it is what it was; and that the same calls answer the same (P3).
func isNew(t *testing.T, l []api.Node, call func(l []api.Node) ([]api.Node, api.Errno)) {
	t.Helper()
	handed := cloned(l)
	a, e := call(handed)
	b, f := call(handed)
	if e != f || !like(a, b) {
		t.Fatalf("P3: %s: %v, then %v", textOf(l), e, f)
	}
	was := cloned(a)
	for i := range handed {
		overwrite(handed[i].Runs, markRun)
	}
	overwrite(handed, markNode)
	for i := range b {
		overwrite(b[i].Runs, markRun)
		b[i].Runs = was[i].Runs
		if !like(b, was) {
			t.Fatalf("P2: two lists of one answer share memory: %s", textOf(l))
		}
	}
	overwrite(b, markNode)
	if c, _ := call(cloned(l)); !like(a, was) || !like(c, was) {
		t.Fatalf("P2: two answers share memory, or one is what was handed in: %s", textOf(l))
	}
}

func TestP2Answers(t *testing.T) {
	for _, family := range families {
		for _, l := range samples(family) {
			isNew(t, l, func(l []api.Node) ([]api.Node, api.Errno) { return Share(family, l) })
			isNew(t, l, func(l []api.Node) ([]api.Node, api.Errno) { return Whole(l, 300) })
		}
	}
}

// TestP2OneList: that nodes which are handed in share their runs is not to be seen in an answer.
func TestP2OneList(t *testing.T) {
	runs := []api.Run{{N: 5}, {From: api.Word{Lo: 1}, N: 6}}
	l := append(nodesOf("2 0>1 1>2 2=3 3>3"), api.Node{Bits: 1, Runs: runs}, api.Node{Bits: 2, Runs: runs}, api.Node{Bits: 1, Runs: runs})
	for _, call := range []func() ([]api.Node, api.Errno){
		func() ([]api.Node, api.Errno) { return Share(32, l) },
		func() ([]api.Node, api.Errno) { return Whole(l, 4) },
	} {
		s, e := call()
		if e != api.OK {
			t.Fatal(e)
		}
		was := cloned(s)
		for i := range s {
			overwrite(s[i].Runs, markRun)
			s[i].Runs = was[i].Runs
			if !like(s, was) || runs[0].N != 5 {
				t.Fatalf("P2: lists share memory: %s", textOf(s))
			}
		}
	}
}

// TestP2NoList: no list and an empty one are the same.
func TestP2NoList(t *testing.T) {
	for _, l := range [][]api.Node{nil, {}, make([]api.Node, 0, 9)} {
		a, e := Share(32, l)
		b, f := Whole(l, 5)
		ok, g := Equal(l, 0, 0)
		if len(a) != 0 || len(b) != 0 || ok || e != api.ErrNone || f != api.ErrNone || g != api.ErrNone {
			t.Errorf("P2: %v, %v, %v, %v, %v, %v", a, e, b, f, ok, g)
		}
	}
	for _, runs := range [][]api.Run{nil, {}, make([]api.Run, 0, 9)} {
		l := []api.Node{{Bits: 1, Runs: runs}}
		_, e := Share(32, l)
		_, f := Whole(l, 5)
		if _, g := Equal(l, 0, 0); e != api.ErrOrder || f != api.ErrOrder || g != api.ErrOrder {
			t.Errorf("P2: %v, %v, %v", e, f, g)
		}
	}
}

// TestP1OfAnything: every call ends, whatever it is given.
func TestP1OfAnything(t *testing.T) {
	next := counter()
	anyNumber := func() int {
		return []int{int(next()), int(next()%260) - 64, math.MinInt, math.MaxInt, int(next() % 5)}[next()%5]
	}
	anyWord := func() api.Word {
		return api.Word{Hi: next() & next() << (next() % 64), Lo: next() & next() << (next() % 64)}
	}
	for range 20000 {
		l := someList(next, 128)
		for range next() % 3 {
			n := api.Node{Bits: anyNumber()}
			for k := range next() % 4 {
				r := api.Run{From: api.Word{Lo: k}, Kid: next()%2 == 0, N: anyNumber()}
				if next()%3 == 0 {
					r.From = anyWord()
				}
				n.Runs = append(n.Runs, r)
			}
			l = slices.Insert(l, int(next()%uint64(len(l)+1)), n)
		}
		for _, family := range []int{32, 128, anyNumber()} {
			_, want := mtrie.Check(family, l)
			if _, e := Share(family, l); e != want {
				t.Fatalf("P1201: %s by %d: %v, want %v", textOf(l), family, e, want)
			}
		}
		Equal(l, anyNumber(), anyNumber())
		Whole(l, anyNumber())
	}
}

// TestP1BeyondTheLimits: a whole that no memory holds is refused, though so many nodes were allowed.
func TestP1BeyondTheLimits(t *testing.T) {
	for _, size := range []int{32, 40, 50, 62, 63, 64} {
		for _, most := range []int{1<<32 - 1, 1 << 62, math.MaxInt} {
			if s, e := Whole(doubling(size), most); len(s) != 0 || e == api.OK {
				t.Errorf("P1: 2 to %d nodes by %d: %d, %v", size, most, len(s), e)
			}
		}
	}
}

// TestP1204Deep: as many levels as addresses have bits; many of them equal, or none.
func TestP1204Deep(t *testing.T) {
	next := counter()
	for _, family := range families {
		follows(t, next, family, chain(family))
		// Two ways that are alike down to the last node, or are not just there.
		for _, last := range []string{"1 0=1", "1 0=2"} {
			a, b := chain(family-1), chain(family-1)
			l := nodesOf("1 0>1 1>2")
			for i := range a {
				l = append(l, a[i], b[i])
			}
			for i := 1; i < len(l)-2; i++ {
				l[i].Runs = []api.Run{{Kid: true, N: i + 2}}
			}
			l[len(l)-1] = nodesOf(last)[0]
			follows(t, next, family, l)
			want := len(l)
			if strings.HasSuffix(last, "=1") {
				want = family
			}
			if s := shareOf(t, family, l); len(s) != want {
				t.Errorf("P1201: two ways of %d nodes: %d", family, len(s))
			}
		}
	}
}
