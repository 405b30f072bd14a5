package share

import (
	"maps"
	"math"
	"math/big"
	"slices"
	"strconv"
	"strings"
	"testing"

	"turnpike/api"
	"turnpike/mtrie"
	"turnpike/stride"
)

var (
	families   = []int{32, 128}
	noFamilies = []int{math.MinInt, -128, -32, -1, 0, 1, 31, 33, 64, 127, 129, 256, math.MaxInt}
	markRun    = api.Run{From: api.Word{Hi: 0xdead, Lo: 0xbeef}, Kid: true, N: -5}
	markNode   = api.Node{Bits: -5}
)

// spell writes the first n bits of a word as signs 0 and 1. What the document says of slots and ways is said of such texts: the tests hold the one against the other.
func spell(w api.Word, n int) string {
	b := make([]byte, n)
	for i := range n {
		half, at := w.Hi, 63-i
		if i >= 64 {
			half, at = w.Lo, 127-i
		}
		b[i] = '0' + byte(half>>at&1)
	}
	return string(b)
}

// ofBits is the word that begins with these bits; slotOf the number that they are.
func ofBits(s string) api.Word {
	var w api.Word
	for i := range len(s) {
		if s[i] == '0' {
			continue
		}
		if i < 64 {
			w.Hi |= 1 << (63 - i)
		} else {
			w.Lo |= 1 << (127 - i)
		}
	}
	return w
}

func slotOf(s string) api.Word {
	return ofBits(strings.Repeat("0", 128-len(s)) + s)
}

// fill makes a text as long as asked for by more signs of one kind.
func fill(s string, n int, sign string) string {
	return s + strings.Repeat(sign, n-len(s))
}

// behind is the text of the next number; false behind the last one. ahead is that of the one ahead.
func behind(s string) (string, bool) {
	end := strings.LastIndexByte(s, '0')
	if end < 0 {
		return "", false
	}
	return s[:end] + "1" + strings.Repeat("0", len(s)-end-1), true
}

func ahead(s string) (string, bool) {
	end := strings.LastIndexByte(s, '1')
	if end < 0 {
		return "", false
	}
	return s[:end] + "0" + strings.Repeat("1", len(s)-end-1), true
}

// counter makes numbers without a pattern, always the same ones.
func counter() func() uint64 {
	x := uint64(0x9e3779b97f4a7c15)
	return func() uint64 {
		x ^= x << 13
		x ^= x >> 7
		x ^= x << 17
		return x
	}
}

// nodesOf is the list of a text: nodes with a sign ; between two, of each its bits, and its runs: the first slot, a sign = and a next hop, or a sign > and a node's number.
func nodesOf(text string) []api.Node {
	var l []api.Node
	for _, part := range strings.Split(text, ";") {
		words := strings.Fields(part)
		if len(words) == 0 {
			continue
		}
		n := api.Node{Bits: intOf(words[0])}
		for _, s := range words[1:] {
			from, to, kid := strings.Cut(s, ">")
			if !kid {
				from, to, _ = strings.Cut(s, "=")
			}
			w, ok := new(big.Int).SetString(from, 0)
			if !ok || w.Sign() < 0 || w.BitLen() > 128 {
				panic("no slot: " + from)
			}
			high := new(big.Int).Rsh(w, 64)
			low := new(big.Int).Sub(w, new(big.Int).Lsh(high, 64))
			n.Runs = append(n.Runs, api.Run{From: api.Word{Hi: high.Uint64(), Lo: low.Uint64()}, Kid: kid, N: intOf(to)})
		}
		l = append(l, n)
	}
	return l
}

func intOf(s string) int {
	n, err := strconv.Atoi(s)
	if err != nil {
		panic("no number: " + s)
	}
	return n
}

// textOf is the text of nodes.
func textOf(l []api.Node) string {
	var parts []string
	for _, n := range l {
		s := strconv.Itoa(n.Bits)
		for _, r := range n.Runs {
			w := new(big.Int).SetUint64(r.From.Hi)
			w.Lsh(w, 64).Or(w, new(big.Int).SetUint64(r.From.Lo))
			s += " " + w.String() + map[bool]string{false: "=", true: ">"}[r.Kid] + strconv.Itoa(r.N)
		}
		parts = append(parts, s)
	}
	return strings.Join(parts, "; ")
}

// like tells whether two lists are of the same nodes.
func like(a, b []api.Node) bool {
	return slices.EqualFunc(a, b, func(x, y api.Node) bool { return x.Bits == y.Bits && slices.Equal(x.Runs, y.Runs) })
}

// cloned is a list that shares nothing with another one.
func cloned(l []api.Node) []api.Node {
	l = slices.Clone(l)
	for i := range l {
		l[i].Runs = slices.Clone(l[i].Runs)
	}
	return l
}

// slots are those of a node as texts, in order: all, if these are few; else those at which a run of it, or of another node, begins.
func slots(n, other api.Node) []string {
	var l []string
	if n.Bits <= 5 {
		v, ok := strings.Repeat("0", n.Bits), true
		for ok {
			l = append(l, v)
			v, ok = behind(v)
		}
		return l
	}
	for _, r := range slices.Concat(n.Runs, other.Runs) {
		l = append(l, spell(r.From, 128)[128-n.Bits:])
	}
	slices.Sort(l)
	return slices.Compact(l)
}

// holds is the run that holds a slot of a right node: the last one that does not begin behind it.
func holds(n api.Node, v string) api.Run {
	v = strings.Repeat("0", 128-len(v)) + v
	for _, r := range slices.Backward(n.Runs) {
		if spell(r.From, 128) <= v {
			return r
		}
	}
	panic("no run holds " + v)
}

// equals tells of a right list which nodes are equal, by the chapter's words.
type equals struct {
	l     []api.Node
	known map[[2]int]bool
}

func equalsOf(l []api.Node) equals {
	return equals{l, map[[2]int]bool{}}
}

func (x equals) are(a, b int) bool {
	if y, ok := x.known[[2]int{a, b}]; ok {
		return y
	}
	y := x.areBySlots(x.l[a], x.l[b])
	x.known[[2]int{a, b}] = y
	return y
}

func (x equals) areBySlots(n, m api.Node) bool {
	if n.Bits != m.Bits {
		return false
	}
	for _, v := range slots(n, m) {
		r, s := holds(n, v), holds(m, v)
		if r.Kid != s.Kid || !r.Kid && r.N != s.N || r.Kid && !x.are(r.N, s.N) {
			return false
		}
	}
	return true
}

// firsts tells by the number of a node of a right list the first one that is equal to it.
func firsts(l []api.Node) []int {
	x := equalsOf(l)
	first := make([]int, len(l))
	for i := range l {
		for !x.are(first[i], i) {
			first[i]++
		}
	}
	return first
}

// shared is what P1201 says of a right list.
func shared(l []api.Node) []api.Node {
	first := firsts(l)
	kept := map[int]api.Node{}
	for i, n := range l {
		if first[i] == i {
			kept[i] = bySlots(n, first)
		}
	}
	order := orderOf(kept)
	var out []api.Node
	for _, i := range order {
		n := api.Node{Bits: kept[i].Bits}
		for _, r := range kept[i].Runs {
			if r.Kid {
				r.N = slices.Index(order, r.N)
			}
			n.Runs = append(n.Runs, r)
		}
		out = append(out, n)
	}
	return out
}

// bySlots is a node with other numbers: where a slot holds other than the one ahead, a run begins.
func bySlots(n api.Node, number []int) api.Node {
	m := api.Node{Bits: n.Bits}
	for _, v := range slots(n, n) {
		r := holds(n, v)
		if r.Kid {
			r.N = number[r.N]
		}
		r.From = slotOf(v)
		if end := len(m.Runs) - 1; end < 0 || m.Runs[end].Kid != r.Kid || m.Runs[end].N != r.N {
			m.Runs = append(m.Runs, r)
		}
	}
	return m
}

// orderOf is the order of the list that nodes make, by their numbers: the walk's places stand in a list, the last one is where it is.
func orderOf(kept map[int]api.Node) []int {
	type place struct{ node, left int } // so many of its runs are to be gone through
	var done []int
	met := map[int]bool{0: true}
	way := []place{{0, len(kept[0].Runs)}}
	for len(way) > 0 {
		at := &way[len(way)-1]
		if at.left == 0 {
			done = slices.Insert(done, 0, at.node)
			way = way[:len(way)-1]
			continue
		}
		at.left--
		if r := kept[at.node].Runs[at.left]; r.Kid && !met[r.N] {
			met[r.N] = true
			way = append(way, place{r.N, len(kept[r.N].Runs)})
		}
	}
	return done
}

// ways are those down from node 0, as texts: of each run on it three signs; with the node that it ends at.
func ways(l []api.Node) map[string]int {
	m := map[string]int{"": 0}
	todo := []string{""}
	for len(todo) > 0 {
		s := todo[0]
		todo = todo[1:]
		for i, r := range l[m[s]].Runs {
			if r.Kid {
				down := s + string([]byte{byte('a' + i/400), byte('a' + i/20%20), byte('a' + i%20)})
				m[down] = r.N
				todo = append(todo, down)
			}
		}
	}
	return m
}

// whole is what P1203 says of a right list: a way is ahead of those that go on from it, and of those whose first run that is another one is behind.
func whole(l []api.Node) []api.Node {
	m := ways(l)
	order := slices.Sorted(maps.Keys(m))
	var out []api.Node
	for i, s := range order {
		n := api.Node{Bits: l[m[s]].Bits}
		kids := slices.DeleteFunc(slices.Clone(order[i:]), func(t string) bool { return len(t) != len(s)+3 || !strings.HasPrefix(t, s) })
		for _, r := range l[m[s]].Runs {
			if r.Kid {
				r.N = slices.Index(order, kids[0])
				kids = kids[1:]
			}
			n.Runs = append(n.Runs, r)
		}
		out = append(out, n)
	}
	return out
}

// sizeBy is how many nodes the whole of a right list has.
func sizeBy(l []api.Node) *big.Int {
	sizes := make([]*big.Int, len(l))
	for i := len(l) - 1; i >= 0; i-- {
		sizes[i] = big.NewInt(1)
		for _, r := range l[i].Runs {
			if r.Kid {
				sizes[i].Add(sizes[i], sizes[r.N])
			}
		}
	}
	return sizes[0]
}

// isRight tells whether a list is right for a family.
func isRight(family int, l []api.Node) bool {
	_, e := mtrie.Check(family, l)
	return e == api.OK
}

// reached is a list without the nodes to which no way leads, and without neighbouring runs that say the same.
func reached(l []api.Node) []api.Node {
	met := map[int]bool{0: true}
	for i, n := range l {
		for _, r := range n.Runs {
			if r.Kid && met[i] {
				met[r.N] = true
			}
		}
	}
	order := slices.Sorted(maps.Keys(met))
	var out []api.Node
	for _, i := range order {
		n := api.Node{Bits: l[i].Bits}
		for _, r := range l[i].Runs {
			if r.Kid {
				r.N = slices.Index(order, r.N)
			}
			if end := len(n.Runs) - 1; end < 0 || n.Runs[end].Kid != r.Kid || n.Runs[end].N != r.N {
				n.Runs = append(n.Runs, r)
			}
		}
		out = append(out, n)
	}
	return out
}

// someList makes a right list for a family without a pattern: of few kinds of nodes, so that many are equal, or are so but for little; it may be made of more nodes afterwards.
func someList(next func() uint64, family int) []api.Node {
	for {
		size := 1 + int(next()%12)
		kinds := 1 + next()%3    // of bits
		hops := 1 + next()%3     // next hops
		leads := next() % 4      // of four slots so many lead to a node
		far := 1 + int(next()%6) // so far behind it
		l := make([]api.Node, size)
		for i := range l {
			bits := []int{1, 2, 3, 1, 7, 20}[next()%(2*kinds)]
			l[i] = someNode(next, bits, func() (bool, int) {
				if i < size-1 && next()%4 <= leads {
					return true, i + 1 + int(next()%uint64(min(far, size-1-i)))
				}
				return false, []int{0, 1, 65535}[next()%hops]
			})
		}
		l = reached(l)
		for range next() % 10 {
			l = apart(next, l, next()%2 == 0)
		}
		if next()%2 == 0 {
			l = shuffled(next, l)
		}
		if isRight(family, l) {
			return l
		}
	}
}

// apart lets a run lead to a copy of the node to which it leads, if others lead there, too: the whole stays the same. Or a part of it, if it has several slots: then only what the slots lead to stays the same.
func apart(next func() uint64, l []api.Node, part bool) []api.Node {
	i := int(next() % uint64(len(l)))
	k := int(next() % uint64(len(l[i].Runs)))
	r := l[i].Runs[k]
	others := 0
	for _, n := range l {
		for _, s := range n.Runs {
			if s.Kid && s.N == r.N {
				others++
			}
		}
	}
	from, ok := behind(spell(r.From, 128))
	if ok && k+1 < len(l[i].Runs) {
		ok = from != spell(l[i].Runs[k+1].From, 128)
	}
	if ok && l[i].Bits < 128 {
		ok = from[:128-l[i].Bits] == fill("", 128-l[i].Bits, "0")
	}
	if !r.Kid || part && !ok || !part && others < 2 {
		return l
	}
	l = cloned(l)
	copied := len(l)
	l = append(l, cloned(l[r.N:r.N+1])...)
	if part {
		l[i].Runs = slices.Insert(l[i].Runs, k+1, api.Run{From: slotOf(from), Kid: true, N: copied})
	} else {
		l[i].Runs[k].N = copied
	}
	return shuffled(next, l)
}

// shuffled is the same nodes in another order in which each stands ahead of those to which it leads.
func shuffled(next func() uint64, l []api.Node) []api.Node {
	order := []int{0}
	for len(order) < len(l) {
		i := int(next() % uint64(len(l)))
		ready := !slices.Contains(order, i)
		for k, n := range l {
			ready = ready && (slices.Contains(order, k) || !slices.ContainsFunc(n.Runs, func(r api.Run) bool { return r.Kid && r.N == i }))
		}
		if ready {
			order = append(order, i)
		}
	}
	var out []api.Node
	for _, i := range order {
		n := cloned(l[i : i+1])[0]
		for k, r := range n.Runs {
			if r.Kid {
				n.Runs[k].N = slices.Index(order, r.N)
			}
		}
		out = append(out, n)
	}
	return out
}

// someNode makes one: of each slot at which a run may begin it is told what is in there. Neighbouring runs may say the same.
func someNode(next func() uint64, bits int, content func() (bool, int)) api.Node {
	n := api.Node{Bits: bits}
	at := []string{fill("", bits, "0")}
	if bits < 3 {
		at = slots(n, n)
	} else {
		for _, v := range []string{fill("", bits, "1"), fill("0", bits, "1"), fill("1", bits, "0"), fill("01", bits, "0")} {
			if next()%2 == 0 {
				at = append(at, v)
			}
		}
	}
	slices.Sort(at)
	for _, v := range at {
		kid, to := content()
		n.Runs = append(n.Runs, api.Run{From: slotOf(v), Kid: kid, N: to})
	}
	return n
}

// smallLists goes over all right lists of so many nodes of 1 bit and the next hops 0 and 1.
func smallLists(size int) func(yield func([]api.Node) bool) {
	return func(yield func([]api.Node) bool) {
		l := make([]api.Node, size)
		var lay func(i int) bool
		lay = func(i int) bool {
			if i < 0 {
				return !isRight(32, l) || yield(l)
			}
			kinds := []api.Run{{N: 0}, {N: 1}}
			for k := i + 1; k < size; k++ {
				kinds = append(kinds, api.Run{Kid: true, N: k})
			}
			for _, a := range kinds {
				for _, b := range kinds {
					l[i] = api.Node{Bits: 1, Runs: []api.Run{a}}
					if a != b {
						b.From.Lo = 1
						l[i].Runs = append(l[i].Runs, b)
					}
					if !lay(i - 1) {
						return false
					}
				}
			}
			return true
		}
		lay(size - 1)
	}
}

// edges are right lists for both families at the edges that the document names.
func edges() [][]api.Node {
	var l [][]api.Node
	for _, text := range []string{
		// One node alone.
		"0 0=0", "0 0=65535", "1 0=0", "1 0=1 1=2", "32 0=5", "32 0=5 0xffffffff=6", "20 0=1 1=2 2=1 0xfffff=2",
		// Equal ones, several levels down, some by other runs.
		"1 0>1 1>2; 1 0=5 1=6; 1 0=5 1=6",
		"1 0>1 1>2; 1 0>3; 1 0>4; 1 0>5; 1 0>6; 1 0=7; 1 0=7",
		"1 0>1 1>2; 1 0>3 1>4; 1 0>5; 1 0=5 1=6; 1 0=5 1=6; 1 0=5 1=6",
		"2 0>1 1>2 2>3 3>4; 1 0=5; 1 0=5; 1 0=5; 1 0=5",
		"2 0>1 1>2 2>3 3=9; 1 0=5; 1 0=5; 1 0=5",
		"3 0>1 2>2 5>3 6=0 7>4; 16 0=5 77=6; 16 0=5 77=6; 16 0=5 77=6; 16 0=5 77=6",
		"1 0>1 1>2; 1 0>2 1>3; 1 0>3 1>4; 1 0=1; 1 0=1",
		// Almost equal: but for the bits, a next hop, where a run begins, what it says.
		"1 0>1 1>2; 1 0=5; 2 0=5", "1 0>1 1>2; 1 0=5; 1 0=6", "1 0>1 1>2; 2 0=5 1=6; 2 0=5 2=6", "1 0>1 1>2; 1 0=5 1=6; 1 0=6 1=5", "1 0>1 1>2; 1 0>3 1=3; 1 0>3; 1 0=3",
		"1 0>1 1>2; 1 0=3; 1 0>3; 1 0=1",
		// In order already, or not.
		"2 0>1 1>2 2>3; 1 0>3 1=1; 1 0>3 1=2; 1 0=3", "2 0>2 1>1 2>3; 1 0>3 1=1; 1 0>3 1=2; 1 0=3", "2 0>3 1>2 2>1; 1 0=1; 1 0=2; 1 0=3", "1 0>2 1>1; 1 0>2 1=1; 1 0=3", "2 0>3 1>1 2>2; 1 0>3; 1 0=1; 1 0=4 1=9",
	} {
		l = append(l, nodesOf(text))
	}
	return l
}

// edges128 are more of them for the family 128 alone.
func edges128() [][]api.Node {
	l := [][]api.Node{nodesOf("128 0=0"), nodesOf("128 0=1 0xffffffffffffffffffffffffffffffff=2"), nodesOf("1 0>1 1>2; 127 0=1 0x10000000000000000=2; 127 0=1 0x10000000000000000=2"), nodesOf("1 0>1 1>2; 127 0=1 0x10000000000000000=2; 127 0=1 0x1=2"), nodesOf("64 0>1 1>2 0xffffffffffffffff>3; 64 0=1; 64 0=2; 64 0=1"), nodesOf("33 0=1"), chain(128), doubling(64)}
	return l
}

// chain is a list of so many nodes of 1 bit, each of which leads to the next one alone.
func chain(size int) []api.Node {
	var l []api.Node
	for i := range size - 1 {
		l = append(l, api.Node{Bits: 1, Runs: []api.Run{{Kid: true, N: i + 1}}})
	}
	return append(l, nodesOf("1 0=1")...)
}

// doubling is a list of so many nodes of 2 bits, each of which leads to the next one twice: its whole has 2 to their number, less 1.
func doubling(size int) []api.Node {
	var l []api.Node
	for i := range size - 1 {
		l = append(l, api.Node{Bits: 2, Runs: []api.Run{{Kid: true, N: i + 1}, {From: api.Word{Lo: 1}, N: 7}, {From: api.Word{Lo: 2}, Kid: true, N: i + 1}}})
	}
	return append(l, nodesOf("2 0=1")...)
}

// someTable is one of routes without a pattern, and of few next hops.
func someTable(next func() uint64, family int) api.Table {
	length := 1 + int(next()%9)
	root := spell(api.Word{Hi: next(), Lo: next()}, int(next()%2)*int(next()%uint64(family-9)))
	m := map[string]int{}
	for range next() % 60 {
		m[root+spell(api.Word{Hi: next()}, int(next()%uint64(length+1)))] = 1 + int(next()%2)
	}
	x := api.Table{W: family}
	for _, s := range slices.Sorted(maps.Keys(m)) {
		x.Routes = append(x.Routes, api.Route{At: api.Prefix{Addr: ofBits(s), Len: len(s)}, Hop: m[s]})
	}
	return x
}

// built are lists of package mtrie's Build.
func built(next func() uint64, family, tables int) [][]api.Node {
	var l [][]api.Node
	for range tables {
		x := someTable(next, family)
		for _, bits := range []int{1, 2, 3, 8} {
			plan, e := stride.Even(x, bits)
			if e != api.OK {
				panic(e.Error())
			}
			nodes, e := mtrie.Build(x, plan)
			if e != api.OK {
				panic(e.Error())
			}
			l = append(l, nodes)
		}
	}
	return l
}

// samples are right lists for a family, of all kinds.
func samples(family int) [][]api.Node {
	next := counter()
	l := edges()
	if family == 128 {
		l = append(l, edges128()...)
	}
	for range 2000 {
		l = append(l, someList(next, family))
	}
	return append(l, built(next, family, 40)...)
}

// guarded lays a list into another one with marks ahead of it, and in its spare room; what it answers beside says whether all is as it was.
func guarded[T any](l []T, mark T, same func(a, b T) bool) ([]T, func() bool) {
	const more = 3
	whole := slices.Repeat([]T{mark}, len(l)+2*more)
	copy(whole[more:], l)
	was := slices.Clone(whole)
	return whole[more : more+len(l)], func() bool { return slices.EqualFunc(whole, was, same) }
}

// guardedNodes does so with nodes, and with the runs of each.
func guardedNodes(l []api.Node) ([]api.Node, func() bool) {
	var all []func() bool
	own := slices.Clone(l)
	for i, n := range l {
		runs, asTheyWere := guarded(n.Runs, markRun, func(a, b api.Run) bool { return a == b })
		own[i].Runs = runs
		all = append(all, asTheyWere)
	}
	nodes, asTheyWere := guarded(own, markNode, func(a, b api.Node) bool {
		return a.Bits == b.Bits && len(a.Runs) == len(b.Runs) && (len(a.Runs) == 0 || &a.Runs[0] == &b.Runs[0])
	})
	all = append(all, asTheyWere)
	return nodes, func() bool {
		return !slices.ContainsFunc(all, func(asItWas func() bool) bool { return !asItWas() })
	}
}

func TestSamplesAreSound(t *testing.T) {
	if s, ok := behind("0111"); s != "1000" || !ok {
		t.Errorf("behind 0111: %s", s)
	}
	if s, ok := ahead("1000"); s != "0111" || !ok || slotOf("110") != (api.Word{Lo: 6}) || fill("01", 4, "1") != "0111" {
		t.Errorf("ahead of 1000: %s", s)
	}
	text := "1 0>1 1=9; 127 0=1 18446744073709551618=0"
	if l := nodesOf(text); textOf(l) != text || l[0].Runs[0] != (api.Run{Kid: true, N: 1}) || l[1].Runs[1] != (api.Run{From: api.Word{Hi: 1, Lo: 2}}) {
		t.Errorf("nodes: %v", l)
	}
	for _, x := range [][3]string{
		{"1 0>1 1>2; 1 0=5 1=6; 1 0=5 1=6", "1 0>1; 1 0=5 1=6", "1 0>1 1>2; 1 0=5 1=6; 1 0=5 1=6"},
		{"1 0>2 1>1; 1 0>2 1=1; 1 0=3", "1 0>2 1>1; 1 0>2 1=1; 1 0=3", "1 0>1 1>2; 1 0=3; 1 0>3 1=1; 1 0=3"},
		{"2 0>3 1>2 2>1; 1 0=1; 1 0=2; 1 0=3", "2 0>1 1>2 2>3; 1 0=3; 1 0=2; 1 0=1", "2 0>1 1>2 2>3; 1 0=3; 1 0=2; 1 0=1"},
	} {
		if l := nodesOf(x[0]); textOf(shared(l)) != x[1] || textOf(whole(l)) != x[2] {
			t.Errorf("%s: %s, %s", x[0], textOf(shared(l)), textOf(whole(l)))
		}
	}
	if l := nodesOf("1 0>1 1>2; 1 0>3 1>4; 1 0>5; 1 0=5 1=6; 1 0=5 1=6; 1 0=5 1=6"); !equalsOf(l).are(1, 2) || equalsOf(l).are(1, 3) || sizeBy(l).Int64() != 6 || sizeBy(doubling(64)).BitLen() != 64 {
		t.Error("equal nodes are not as they are")
	}
	nodes, asTheyWere := guardedNodes(nodesOf("1 0>1 1=9; 1 0=1"))
	if !asTheyWere() {
		t.Error("nothing is changed, but it is told")
	}
	_ = append(nodes[1].Runs, api.Run{})
	if asTheyWere() {
		t.Error("spare room is changed, but it is not told")
	}
	for _, family := range families {
		joins, merges, moved := 0, 0, 0
		for _, l := range samples(family) {
			if !isRight(family, l) {
				t.Fatalf("%s is not right", textOf(l))
			}
			s := shared(l)
			if len(s) < len(l) {
				joins++
			}
			first := firsts(l)
			if slices.ContainsFunc(l, func(n api.Node) bool { return len(bySlots(n, first).Runs) < len(n.Runs) }) {
				merges++
			}
			if len(s) == len(l) && !like(s, l) {
				moved++
			}
		}
		if joins < 500 || merges < 200 || moved < 50 {
			t.Errorf("by %d: only %d lists have equal nodes, %d have runs that become one, %d are out of order", family, joins, merges, moved)
		}
	}
}
