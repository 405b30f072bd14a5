package mtrie

import (
	"math"
	"math/big"
	"slices"
	"testing"

	"turnpike/api"
)

// isRight tells of a node the first thing that is wrong with it, by the chapter's words.
func isRight(l []api.Node, i int) api.Errno {
	n := l[i]
	if n.Bits < 0 || n.Bits > 128 || n.Bits == 0 && len(l) != 1 {
		return api.ErrArg
	}
	froms := []*big.Int{}
	for _, r := range n.Runs {
		froms = append(froms, numberOf(r.From))
	}
	if len(froms) == 0 || froms[0].Sign() != 0 || froms[len(froms)-1].Cmp(power(n.Bits)) >= 0 {
		return api.ErrOrder
	}
	for k := 1; k < len(froms); k++ {
		if froms[k].Cmp(froms[k-1]) <= 0 || n.Runs[k].Kid == n.Runs[k-1].Kid && n.Runs[k].N == n.Runs[k-1].N {
			return api.ErrOrder
		}
	}
	for _, r := range n.Runs {
		if !r.Kid && (r.N < 0 || r.N > 65535) {
			return api.ErrHop
		}
		if r.Kid && (r.N <= i || r.N >= len(l)) {
			return api.ErrJump
		}
	}
	return api.OK
}

// ways goes down all ways from a node on: how many bits they take, and how many nodes they meet.
func ways(l []api.Node, i, bits, nodes int, tell func(bits, nodes int)) {
	bits += l[i].Bits
	if l[i].Bits > 0 {
		nodes++
	}
	tell(bits, nodes)
	for _, r := range l[i].Runs {
		if r.Kid {
			ways(l, r.N, bits, nodes, tell)
		}
	}
}

// checked is what P1102 says of a list.
func checked(family int, l []api.Node) (int, api.Errno) {
	if family != 32 && family != 128 {
		return 0, api.ErrFamily
	}
	if len(l) == 0 {
		return 0, api.ErrNone
	}
	for i := range l {
		if e := isRight(l, i); e != api.OK {
			return 0, e
		}
	}
	for i := 1; i < len(l); i++ {
		if !slices.ContainsFunc(l, func(n api.Node) bool {
			return slices.ContainsFunc(n.Runs, func(r api.Run) bool { return r.Kid && r.N == i })
		}) {
			return 0, api.ErrUnused
		}
	}
	most, deep := 0, 0
	ways(l, 0, 0, 0, func(bits, nodes int) { most, deep = max(most, bits), max(deep, nodes) })
	if most > family {
		return 0, api.ErrBits
	}
	return deep, api.OK
}

// isChecked asks that Check tells what the chapter says of a list.
func isChecked(t *testing.T, family int, l []api.Node) api.Errno {
	t.Helper()
	depth, want := checked(family, l)
	if d, e := Check(family, l); d != depth || e != want {
		t.Fatalf("P1102: Check of %v by %d: %d, %v, want %d, %v", l, family, d, e, depth, want)
	}
	return want
}

func TestP1102ByHand(t *testing.T) {
	for _, x := range []struct {
		text  string
		four  api.Errno
		six   api.Errno
		depth int
	}{
		{"", api.ErrNone, api.ErrNone, 0},
		// The one node of no bits.
		{"0 0=0", 0, 0, 0}, {"0 0=65535", 0, 0, 0}, {"0 0=65536", api.ErrHop, api.ErrHop, 0}, {"0 0>0", api.ErrJump, api.ErrJump, 0}, {"0 0>1", api.ErrJump, api.ErrJump, 0}, {"0", api.ErrOrder, api.ErrOrder, 0}, {"0 0=1 1=2", api.ErrOrder, api.ErrOrder, 0}, {"0 1=1", api.ErrOrder, api.ErrOrder, 0},
		// No bits beside other nodes.
		{"0 0>1; 1 0=1", api.ErrArg, api.ErrArg, 0}, {"1 0>1; 0 0=1", api.ErrArg, api.ErrArg, 0}, {"0 0=1; 0 0=1", api.ErrArg, api.ErrArg, 0}, {"1 0>1 1>2; 1 0=1; 0 0=1", api.ErrArg, api.ErrArg, 0},
		// Bits that may not be.
		{"-1 0=1", api.ErrArg, api.ErrArg, 0}, {"129 0=1", api.ErrArg, api.ErrArg, 0}, {"1 0>1; 129 0=1", api.ErrArg, api.ErrArg, 0}, {"256 0=1", api.ErrArg, api.ErrArg, 0},
		// Bits of a family.
		{"1 0=1", 0, 0, 1}, {"32 0=1", 0, 0, 1}, {"33 0=1", api.ErrBits, 0, 1}, {"128 0=1", api.ErrBits, 0, 1}, {"16 0>1; 16 0=1", 0, 0, 2}, {"17 0>1; 16 0=1", api.ErrBits, 0, 2}, {"64 0>1; 64 0=1", api.ErrBits, 0, 2}, {"100 0>1; 100 0=1", api.ErrBits, api.ErrBits, 0}, {"1 0>1; 128 0=1", api.ErrBits, api.ErrBits, 0}, {"128 0>1; 1 0=1", api.ErrBits, api.ErrBits, 0},
		{"8 0>1; 8 0>2; 8 0>3; 8 0=9", 0, 0, 4}, {"8 0>1; 8 0>2; 8 0>3; 9 0=9", api.ErrBits, 0, 4},
		// The longest way is not the first one, nor the last; that of the most bits is not that of the most nodes.
		{"1 0>1 1>2; 2 0>2 1=3; 30 0=1", api.ErrBits, 0, 3}, {"1 0>1 1>2; 1 0>2 1=3; 30 0=1", 0, 0, 3}, {"2 0>1 1>2 2>3; 1 0>2; 1 0>3; 28 0=1", 0, 0, 4}, {"2 0>3 1>2 2>1; 1 0>2; 1 0>3; 29 0=1", api.ErrBits, 0, 4},
		{"2 0>1 1>2 2>5; 20 0>5; 1 0>3; 1 0>4; 1 0>5; 10 0=1", 0, 0, 5}, {"2 0>1 1>2 2>5; 21 0>5; 1 0>3; 1 0>4; 1 0>5; 10 0=1", api.ErrBits, 0, 5},
		{"2 0>1 1=3 2>2; 30 0=1; 31 0=1", api.ErrBits, 0, 2}, {"2 0>1 1=3 2>2; 31 0=1; 30 0=1", api.ErrBits, 0, 2},
		// Runs.
		{"1", api.ErrOrder, api.ErrOrder, 0}, {"1 1=1", api.ErrOrder, api.ErrOrder, 0}, {"1 0=1 0=2", api.ErrOrder, api.ErrOrder, 0}, {"2 0=1 2=2 1=3", api.ErrOrder, api.ErrOrder, 0}, {"2 0=1 2=2 2=3", api.ErrOrder, api.ErrOrder, 0}, {"1 0=1 2=2", api.ErrOrder, api.ErrOrder, 0}, {"1 0=1 1=1", api.ErrOrder, api.ErrOrder, 0}, {"2 0=1 1=2 2=2", api.ErrOrder, api.ErrOrder, 0}, {"1 0>1 1>1; 1 0=1", api.ErrOrder, api.ErrOrder, 0}, {"1 0=1 1=2 2=3", api.ErrOrder, api.ErrOrder, 0},
		{"2 0=1 1=2 2=1 3=2", 0, 0, 1}, {"2 0>1 1=1 2>1 3=2; 1 0=3", 0, 0, 2}, {"1 0=1 1>1; 1 0=1", 0, 0, 2}, {"2 0=0 3=1", 0, 0, 1},
		// Next hops.
		{"1 0=-1", api.ErrHop, api.ErrHop, 0}, {"1 0=65536", api.ErrHop, api.ErrHop, 0}, {"1 0=65535 1=0", 0, 0, 1}, {"1 0=1 1=65536", api.ErrHop, api.ErrHop, 0},
		// To its own node, to one ahead, beyond the list.
		{"1 0>0", api.ErrJump, api.ErrJump, 0}, {"1 0>1; 1 0>1", api.ErrJump, api.ErrJump, 0}, {"1 0>1; 1 0>0", api.ErrJump, api.ErrJump, 0}, {"1 0>1", api.ErrJump, api.ErrJump, 0}, {"1 0>1; 1 0>2", api.ErrJump, api.ErrJump, 0}, {"1 0>-1", api.ErrJump, api.ErrJump, 0}, {"1 0>1 1>2; 1 0=1; 1 0>1", api.ErrJump, api.ErrJump, 0}, {"1 0>65536", api.ErrJump, api.ErrJump, 0},
		// To no run.
		{"1 0=1; 1 0=1", api.ErrUnused, api.ErrUnused, 0}, {"1 0>2; 1 0>2; 1 0=1", api.ErrUnused, api.ErrUnused, 0}, {"1 0>1; 1 0=1; 1 0=1", api.ErrUnused, api.ErrUnused, 0}, {"1 0=2; 1 0=1; 1 0=1", api.ErrUnused, api.ErrUnused, 0}, {"1 0=1; 1 0>2; 1 0=3", api.ErrUnused, api.ErrUnused, 0}, {"2 0>1 1>3; 1 0=1; 1 0=1; 1 0=1", api.ErrUnused, api.ErrUnused, 0},
	} {
		l := nodesOf(x.text)
		for family, want := range map[int]api.Errno{32: x.four, 128: x.six} {
			depth := 0
			if want == api.OK {
				depth = x.depth
			}
			if d, e := Check(family, l); d != depth || e != want {
				t.Errorf("P1102: %s by %d: %d, %v, want %d, %v", x.text, family, d, e, depth, want)
			}
			isChecked(t, family, l)
		}
	}
}

// TestP1102Several: where there are several faults, in the document's order.
func TestP1102Several(t *testing.T) {
	for text, want := range map[string]api.Errno{
		// Of one node.
		"129 1=65536": api.ErrArg, "-1": api.ErrArg, "129 0>0": api.ErrArg, "1 1=65536": api.ErrOrder, "1 0>0 0=1": api.ErrOrder, "1 0=65536 1=65536": api.ErrOrder, "1 0>5 1>5": api.ErrOrder, "1 0=-1 2=1": api.ErrOrder,
		"1 0=65536 1>0": api.ErrHop, "1 0>0 1=65536": api.ErrJump, "2 0=1 1>7 2=-1": api.ErrJump, "2 0=1 1=-1 2>7": api.ErrHop,
		// Of several nodes the first one, whichever fault it has.
		"1 0>0; 129 0=1": api.ErrJump, "1 0=-1; 129 0=1": api.ErrHop, "1 1=1; 129 0=1": api.ErrOrder, "129 0=1; 1 1=1": api.ErrArg, "1 0>1; 1 0>0; 1 1=1": api.ErrJump, "1 0>1; 0 0=1; 1 1=1": api.ErrArg, "1 0>2; 1 1=1; 1 0=65536": api.ErrOrder,
		// What is wrong with a node comes ahead of what is wrong with the list.
		"1 0=1; 1 0=65536": api.ErrHop, "1 0=1; 1 0=1; 1 0>1": api.ErrJump, "100 0>1; 100 0>1": api.ErrJump, "128 0>1; 128 0>2; 1": api.ErrOrder, "1 0=1; 0 0=1": api.ErrArg, "128 0>1; 128 0=1; 1 0=1; 129 0=1": api.ErrArg,
		// That no run leads to a node, ahead of too many bits.
		"100 0>1; 100 0=1; 1 0=1": api.ErrUnused, "100 0>2; 1 0=1; 100 0=1": api.ErrUnused, "1 0=1; 128 0>2; 128 0=1": api.ErrUnused,
	} {
		l := nodesOf(text)
		for _, family := range families {
			if d, e := Check(family, l); d != 0 || e != want {
				t.Errorf("P1102: %s by %d: %d, %v, want %v", text, family, d, e, want)
			}
			isChecked(t, family, l)
		}
	}
}

// TestP1102NoFamily: comes first, whatever the nodes are.
func TestP1102NoFamily(t *testing.T) {
	for _, family := range noFamilies {
		for _, text := range []string{"", "0 0=1", "1 0=1", "129 1=1", "1 0>0", "1 0=1; 1 0=1", "128 0>1; 128 0=1"} {
			if d, e := Check(family, nodesOf(text)); d != 0 || e != api.ErrFamily {
				t.Errorf("P1102: %s by %d: %d, %v", text, family, d, e)
			}
		}
	}
}

// lastSlot is the last one of a node of so many bits; oneMore the number behind one, from 0 on again behind the last word.
func lastSlot(bits int) api.Word {
	return slotOf(fill("", bits, "1"))
}

func oneMore(w api.Word) api.Word {
	w.Lo++
	if w.Lo == 0 {
		w.Hi++
	}
	return w
}

// TestP1102Bits: of nodes of all bits, those that may not be among them; and the last slot that a run may begin with.
func TestP1102Bits(t *testing.T) {
	for _, family := range families {
		for _, bits := range noBits {
			for _, l := range [][]api.Node{{{Bits: bits, Runs: []api.Run{{}}}}, {{Bits: 1, Runs: []api.Run{{Kid: true, N: 1}}}, {Bits: bits, Runs: []api.Run{{}}}}} {
				if d, e := Check(family, l); d != 0 || e != api.ErrArg {
					t.Errorf("P1102: Bits of %d: %d, %v", bits, d, e)
				}
			}
		}
		for bits := range 129 {
			one := api.Node{Bits: bits, Runs: []api.Run{{N: 1}}}
			isChecked(t, family, []api.Node{one})
			for _, more := range []int{1, 31, 32, 64, 127, 128} {
				isChecked(t, family, []api.Node{{Bits: more, Runs: []api.Run{{Kid: true, N: 1}}}, one})
			}
			last := lastSlot(bits)
			over := oneMore(last)
			for _, from := range []api.Word{last, over, {Hi: 1}, {Hi: 1 << 63}, {Lo: 1}, {Lo: math.MaxUint64}, lastSix} {
				isChecked(t, family, []api.Node{{Bits: bits, Runs: []api.Run{{N: 1}, {From: from, N: 2}}}})
				isChecked(t, family, []api.Node{{Bits: bits, Runs: []api.Run{{N: 1}, {From: from, N: 2}, {From: over, N: 3}}}})
			}
		}
	}
}

// TestP1102Numbers: of N, at the edges and far off; some end in the bits of one that may be.
func TestP1102Numbers(t *testing.T) {
	for _, n := range []int{math.MinInt, math.MinInt + 1, -1 << 32, -65536, -65535, -2, -1, 0, 1, 2, 3, 4, 65534, 65535, 65536, 65537, 1 << 17, 1<<32 - 1, 1 << 32, 1<<32 + 1, 1<<32 + 2, math.MaxInt - 1, math.MaxInt} {
		for at := range 3 {
			for _, kid := range []bool{false, true} {
				l := nodesOf("2 0>1 1>2 2=1; 1 0>2 1=3; 1 0=1")
				end := len(l[at].Runs) - 1
				l[at].Runs[end].Kid, l[at].Runs[end].N = kid, n
				isChecked(t, 32, l)
				l[at].Runs = append(l[at].Runs, api.Run{From: api.Word{Lo: uint64(1 + end)}, N: 65537})
				isChecked(t, 128, l)
			}
		}
	}
}

// pool is nodes of few bits and few runs, most of them wrong: every n-th one.
func pool(n int) []api.Node {
	var pieces []api.Run
	for from := range uint64(3) {
		for _, x := range []int{0, 1, 65535, 65536} {
			pieces = append(pieces, api.Run{From: api.Word{Lo: from}, N: x})
		}
		for x := range 4 {
			pieces = append(pieces, api.Run{From: api.Word{Lo: from}, Kid: true, N: x})
		}
	}
	lists := [][]api.Run{nil}
	for _, a := range pieces {
		lists = append(lists, []api.Run{a})
		for _, b := range pieces {
			lists = append(lists, []api.Run{a, b})
		}
	}
	var l []api.Node
	at := 0
	for _, bits := range []int{1, 17, 0, 2, 100, 129} {
		for _, runs := range lists {
			if at++; at%n == 0 {
				l = append(l, api.Node{Bits: bits, Runs: runs})
			}
		}
	}
	return l
}

// TestP1102AllLists: all lists of one, two and three nodes out of a pool.
func TestP1102AllLists(t *testing.T) {
	seen := map[api.Errno]int{}
	try := func(l ...api.Node) {
		for _, family := range families {
			seen[isChecked(t, family, l)]++
		}
	}
	for _, a := range pool(1) {
		try(a)
	}
	few := pool(17)
	for _, a := range few {
		for _, b := range few {
			try(a, b)
		}
	}
	few = append(pool(149), nodesOf("1 0>1 1>2; 1 0>2 1=3; 17 0=1; 17 0>1 1>2; 100 0=1; 1 0>1")...)
	for _, a := range few {
		for _, b := range few {
			for _, c := range few {
				try(a, b, c)
			}
		}
	}
	for _, e := range []api.Errno{api.OK, api.ErrArg, api.ErrOrder, api.ErrHop, api.ErrJump, api.ErrUnused, api.ErrBits} {
		if seen[e] < 20 {
			t.Errorf("only %d lists of %v", seen[e], e)
		}
	}
}

// rightList makes a right list without a pattern, but that its ways may take too many bits: several runs may lead to one node.
func rightList(next func() uint64) []api.Node {
	size := 1 + int(next()%7)
	most := []uint64{4, 12, 40, 128}[next()%4]
	l := make([]api.Node, size)
	for i := range l {
		l[i].Bits = 1 + int(next()%most)
	}
	if size == 1 {
		l[0].Bits = int(next() % 129)
	}
	for i := size - 1; i > 0; i-- {
		up := int(next() % uint64(i))
		l[up].Runs = append(l[up].Runs, api.Run{Kid: true, N: i})
	}
	for i := range l {
		for range next() % 4 {
			r := api.Run{N: int(next() % 65536)}
			if i < size-1 && next()%2 == 0 {
				r = api.Run{Kid: true, N: i + 1 + int(next()%uint64(size-1-i))}
			}
			l[i].Runs = slices.Insert(l[i].Runs, int(next()%uint64(len(l[i].Runs)+1)), r)
		}
		l[i].Runs = slices.CompactFunc(l[i].Runs, func(a, b api.Run) bool { return a.Kid == b.Kid && a.N == b.N })
		if len(l[i].Runs) == 0 {
			l[i].Runs = []api.Run{{N: int(next() % 65536)}}
		}
		for l[i].Bits < 7 && len(l[i].Runs) > 1<<l[i].Bits {
			l[i].Bits++
		}
		begin(next, l[i])
	}
	return l
}

// begin puts in where a node's runs begin.
func begin(next func() uint64, n api.Node) {
	froms := []string{fill("", n.Bits, "0")}
	for len(froms) < len(n.Runs) {
		v := spell(api.Word{Hi: next(), Lo: next()}, n.Bits)
		if next()%3 == 0 {
			// Beside another one.
			if other, ok := behind(froms[next()%uint64(len(froms))]); ok {
				v = other
			}
		}
		if !slices.Contains(froms, v) {
			froms = append(froms, v)
		}
	}
	slices.Sort(froms)
	for i := range n.Runs {
		n.Runs[i].From = slotOf(froms[i])
	}
}

// spoil puts a fault into a list, or changes it otherwise.
func spoil(next func() uint64, l []api.Node) []api.Node {
	n := &l[next()%uint64(len(l))]
	if len(n.Runs) == 0 {
		return l
	}
	at := next() % uint64(len(n.Runs))
	r := &n.Runs[at]
	switch next() % 12 {
	case 0:
		n.Bits = []int{-1, 0, 129, 1, 128, n.Bits + 1}[next()%6]
	case 1:
		r.N = []int{-1, 65535, 65536, 0, 1, len(l) - 1, len(l)}[next()%7]
	case 2:
		r.Kid = !r.Kid
	case 3:
		r.From = api.Word{Hi: next() % 2, Lo: next() % 3}
	case 4:
		r.From.Lo++
	case 5:
		*r = n.Runs[0]
	case 6:
		n.Runs = slices.Delete(n.Runs, int(at), int(at)+1)
	case 7:
		from := lastSlot(min(128, max(0, n.Bits)))
		if next()%2 == 0 {
			from = oneMore(from)
		}
		n.Runs = append(n.Runs, api.Run{From: from, N: 7})
	case 8:
		l = append(l, api.Node{Bits: 1, Runs: []api.Run{{}}})
	case 9:
		l = l[:len(l)-1]
	case 10:
		slices.Reverse(n.Runs)
	case 11:
		r.Kid, r.N = true, int(next()%uint64(len(l)))
	}
	return l
}

// TestP1102AsTheChapterSays: lists without a pattern, right ones and such as have one fault, or several.
func TestP1102AsTheChapterSays(t *testing.T) {
	next := counter()
	seen := map[api.Errno]int{}
	for i := range 60000 {
		l := rightList(next)
		for range i % 4 {
			if len(l) > 0 {
				l = spoil(next, l)
			}
		}
		for _, family := range families {
			seen[isChecked(t, family, l)]++
		}
	}
	for _, e := range []api.Errno{api.OK, api.ErrNone, api.ErrArg, api.ErrOrder, api.ErrHop, api.ErrJump, api.ErrUnused, api.ErrBits} {
		if seen[e] < 500 {
			t.Errorf("only %d lists of %v", seen[e], e)
		}
	}
}

// TestP1102ManyWays: so many ways down that nobody could go down them one by one.
func TestP1102ManyWays(t *testing.T) {
	for _, family := range families {
		var l []api.Node
		for i := range family {
			n := api.Node{Bits: 1, Runs: []api.Run{{Kid: true, N: i + 1}, {From: api.Word{Lo: 1}, Kid: true, N: i + 2}}}
			switch i {
			case family - 2:
				n.Runs = n.Runs[:1]
			case family - 1:
				n.Runs = []api.Run{{N: 1}, {From: api.Word{Lo: 1}, N: 2}}
			}
			l = append(l, n)
		}
		if d, e := Check(family, l); d != family || e != api.OK {
			t.Errorf("P1102: %d, %v", d, e)
		}
		l[0].Bits = 2
		if d, e := Check(family, l); d != 0 || e != api.ErrBits {
			t.Errorf("P1102: %d, %v", d, e)
		}
		// Too many nodes to count the bits of a way in a small number.
		l = nil
		for i := range 1 << 18 {
			l = append(l, api.Node{Bits: 128, Runs: []api.Run{{Kid: true, N: i + 1}}})
		}
		l = append(l, api.Node{Bits: 1, Runs: []api.Run{{}}})
		if d, e := Check(family, l); d != 0 || e != api.ErrBits {
			t.Errorf("P1102: %d, %v", d, e)
		}
	}
}
