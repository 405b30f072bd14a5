package share

import (
	"testing"

	"turnpike/api"
	"turnpike/mtrie"
	"turnpike/stride"
)

// routes are MaxEntries of 20 bits, one beside the other, to the next hops that are told of them.
func routes(family int, hop func(i int) int) api.Table {
	x := api.Table{W: family, Routes: make([]api.Route, api.MaxEntries)}
	for i := range x.Routes {
		x.Routes[i] = api.Route{At: api.Prefix{Addr: api.Word{Hi: uint64(i) << 44}, Len: 20}, Hop: hop(i)}
	}
	return x
}

// builtBy is a table's nodes by even steps.
func builtBy(t *testing.T, x api.Table, bits int) []api.Node {
	t.Helper()
	plan, e := stride.Even(x, bits)
	if e != api.OK {
		t.Fatal(e)
	}
	l, e := mtrie.Build(x, plan)
	if e != api.OK {
		t.Fatal(e)
	}
	return l
}

// isSharedTo asks that Share tells so many nodes, which are right, and the same again; addresses are answered alike.
func isSharedTo(t *testing.T, family int, l []api.Node, want int) []api.Node {
	t.Helper()
	s := shareOf(t, family, l)
	if len(s) != want {
		t.Errorf("P1201: %d nodes become %d, want %d", len(l), len(s), want)
	}
	if again := shareOf(t, family, s); !isRight(family, s) || !like(again, s) {
		t.Errorf("P1204: Share of %d nodes is not right, or not the same again", len(s))
	}
	next := counter()
	for range 2000 {
		a := wayDown(next, family, l)
		if h := answered(s, a); h != answered(l, a) {
			t.Fatalf("P1204: %s is answered %d, want %d", a, h, answered(l, a))
		}
	}
	return s
}

// TestMaxEntries: a million nodes. The next hops begin anew behind so many, so that of each level only so many nodes are unlike.
func TestMaxEntries(t *testing.T) {
	for _, family := range families {
		l := builtBy(t, routes(family, func(i int) int { return 1 + i%16 }), 1)
		// 8, 4, 2 nodes of the last levels, and 1 of each level above.
		s := isSharedTo(t, family, l, 8+4+2+17)
		if w := wholeOf(t, s, 100); len(w) != 17+2+4+8 {
			t.Errorf("P1203: %d nodes", len(w))
		}
		isSharedTo(t, family, builtBy(t, routes(family, func(i int) int { return 1 + i%16 }), 4), 5)
	}
	// 2^16 leaves 1 by 65535: so a level has as many unlike nodes as it has nodes, or 65535.
	l := builtBy(t, routes(128, func(i int) int { return 1 + i%65535 }), 1)
	isSharedTo(t, 128, l, 65535+4*65535)
	w := wholeOf(t, l, len(l))
	if !like(w, l) {
		t.Error("P1203: the whole of a table's nodes is another list")
	}
	if w, e := Whole(l, len(l)-1); len(w) != 0 || e != api.ErrLong {
		t.Errorf("P1203: %d nodes, %v", len(w), e)
	}
}

// TestManyAlone: of many nodes that are much alike no two are equal; what is cheap to tell of them parts them.
func TestManyAlone(t *testing.T) {
	const many = 1 << 17
	next := counter()
	for _, leaf := range []func(i int) api.Node{
		func(i int) api.Node {
			return api.Node{Bits: 18, Runs: []api.Run{{N: 1 + i%65535}, {From: api.Word{Lo: 1}, N: 0}, {From: api.Word{Lo: 2}, N: 1 + i/65535}}}
		},
		func(i int) api.Node {
			return api.Node{Bits: 18, Runs: []api.Run{{N: 1}, {From: api.Word{Lo: uint64(i + 1)}, N: 2}}}
		},
		func(i int) api.Node {
			return api.Node{Bits: 100, Runs: []api.Run{{N: 1}, {From: api.Word{Hi: uint64(i+1) << 10}, N: 2}}}
		},
		func(i int) api.Node {
			return api.Node{Bits: 100, Runs: []api.Run{{N: 1}, {From: api.Word{Hi: uint64(i), Lo: uint64(i + 1)}, N: 2}}}
		},
		func(i int) api.Node {
			return api.Node{Bits: 20, Runs: []api.Run{{N: i & 0x1ff}, {From: api.Word{Lo: uint64(i>>9 + 2)}, N: 1 << 12}}}
		},
	} {
		l := []api.Node{{Bits: 20}}
		for i := range many - 1 {
			l[0].Runs = append(l[0].Runs, api.Run{From: api.Word{Lo: uint64(i)}, Kid: true, N: 1 + i})
			l = append(l, leaf(i))
		}
		s := shareOf(t, 128, l)
		if !like(s, l) {
			t.Errorf("P1201: %d nodes become %d", len(l), len(s))
		}
		most := 0
		for _, numbers := range join(l).like {
			most = max(most, len(numbers))
		}
		if most > 3 {
			t.Errorf("%d nodes have one outline", most)
		}
		// All of them twice: one stands for both.
		for i := range many - 1 {
			l[0].Runs = append(l[0].Runs, api.Run{From: api.Word{Lo: uint64(many + i)}, Kid: true, N: many + i})
			l = append(l, l[1+i])
		}
		if x := shareOf(t, 128, l); len(x) != many || !like(x[1:], s[1:]) || len(x[0].Runs) != len(l[0].Runs) {
			t.Errorf("P1201: %d nodes become %d", len(l), len(x))
		}
		if ok, e := Equal(l, 5, many+4); !ok || e != api.OK {
			t.Errorf("P1202: %v, %v", ok, e)
		}
		if ok, e := Equal(l, 5, 1+int(5+next()%(many-6))); ok || e != api.OK {
			t.Errorf("P1202: %v, %v", ok, e)
		}
	}
}

// TestManyLevels: nodes that lead on to one of two, by 64 levels, some of which are equal only far down.
func TestManyLevels(t *testing.T) {
	next := counter()
	const wide, levels = 2000, 64
	// Of each level all nodes but node 0's are one of wide.
	l := []api.Node{{Bits: 12}}
	for i := range wide {
		l[0].Runs = append(l[0].Runs, api.Run{From: api.Word{Lo: uint64(i)}, Kid: true, N: 1 + i})
	}
	for level := range levels {
		for i := range wide {
			n := api.Node{Bits: 1, Runs: []api.Run{{N: i % 7}}}
			if level < levels-1 {
				down := 1 + (level+1)*wide
				n.Runs = []api.Run{{Kid: true, N: down + i}, {From: api.Word{Lo: 1}, Kid: true, N: down + int(next()%7)}}
				if n.Runs[0].N == n.Runs[1].N {
					n.Runs = n.Runs[:1]
				}
			}
			l = append(l, n)
		}
	}
	s := shareOf(t, 128, l)
	if !isRight(128, s) || len(s) <= 7*levels {
		t.Errorf("P1204: %d nodes become %d", len(l), len(s))
	}
	if again := shareOf(t, 128, s); !like(again, s) {
		t.Error("P1204: Share is not the same again")
	}
	for range 1000 {
		a := wayDown(next, 128, l)
		if h := answered(s, a); h != answered(l, a) {
			t.Fatalf("P1204: %s is answered %d, want %d", a, h, answered(l, a))
		}
	}
	if _, e := Whole(l, 1<<40); e != api.ErrLong {
		t.Errorf("P1203: %v", e)
	}
}
