package emit

import (
	"encoding/hex"
	"fmt"
	"maps"
	"math"
	"math/big"
	"slices"
	"strconv"
	"strings"
	"testing"

	"turnpike/api"
	"turnpike/mtrie"
	"turnpike/share"
	"turnpike/stride"
)

var (
	families   = []int{32, 128}
	noFamilies = []int{math.MinInt, -128, -32, -1, 0, 1, 8, 31, 33, 64, 127, 129, 256, math.MaxInt}
	// noBits are numbers that no node's bits may be, some of which end in the bits of one that may.
	noBits   = []int{math.MinInt, math.MinInt + 1, -1 << 32, -256, -128, -32, -24, -2, -1, 129, 130, 255, 256, 257, 1<<16 + 1, 1 << 32, 1<<32 + 1, math.MaxInt - 1, math.MaxInt}
	markRun  = api.Run{From: api.Word{Hi: 0xdead, Lo: 0xbeef}, Kid: true, N: -5}
	markNode = api.Node{Bits: -5}
)

// counter makes numbers without a pattern, always the same ones.
func counter() func() uint64 {
	x := uint64(0x9e3779b97f4a7c15)
	return func() uint64 {
		x ^= x << 13
		x ^= x >> 7
		x ^= x << 17
		return x
	}
}

// upTo is a number from 0 on below most, without a pattern.
func upTo(next func() uint64, most int) int {
	return int(next() >> 11 % uint64(most))
}

// nodesOf is the list of a text: nodes with a sign ; between two, of each its bits, and its runs: the first slot, a sign = and a next hop, or a sign > and a node's number.
func nodesOf(text string) []api.Node {
	var l []api.Node
	for _, part := range strings.Split(text, ";") {
		words := strings.Fields(part)
		if len(words) == 0 {
			continue
		}
		n := api.Node{Bits: intOf(words[0])}
		for _, s := range words[1:] {
			from, to, kid := strings.Cut(s, ">")
			if !kid {
				from, to, _ = strings.Cut(s, "=")
			}
			w, ok := new(big.Int).SetString(from, 0)
			if !ok || w.Sign() < 0 || w.BitLen() > 128 {
				panic("no slot: " + from)
			}
			n.Runs = append(n.Runs, api.Run{From: wordOf(w), Kid: kid, N: intOf(to)})
		}
		l = append(l, n)
	}
	return l
}

func intOf(s string) int {
	n, err := strconv.Atoi(s)
	if err != nil {
		panic("no number: " + s)
	}
	return n
}

// wordOf is a number as a word, numberOf a word as a number.
func wordOf(n *big.Int) api.Word {
	high := new(big.Int).Rsh(n, 64)
	low := new(big.Int).Sub(n, new(big.Int).Lsh(high, 64))
	return api.Word{Hi: high.Uint64(), Lo: low.Uint64()}
}

func numberOf(w api.Word) *big.Int {
	n := new(big.Int).SetUint64(w.Hi)
	return n.Lsh(n, 64).Or(n, new(big.Int).SetUint64(w.Lo))
}

// power is 2 to so many bits; 0, if these are below 0.
func power(bits int) *big.Int {
	if bits < 0 {
		return new(big.Int)
	}
	return new(big.Int).Lsh(big.NewInt(1), uint(bits))
}

// lastSlot is that of a node of so many bits, oneMore the number behind it.
func lastSlot(bits int) api.Word {
	return wordOf(new(big.Int).Sub(power(bits), big.NewInt(1)))
}

func oneMore(bits int) api.Word {
	return wordOf(new(big.Int).Mod(power(bits), power(128)))
}

// textOf is the text of nodes; of a long one its begin.
func textOf(l []api.Node) string {
	var parts []string
	for _, n := range l {
		s := strconv.Itoa(n.Bits)
		for _, r := range n.Runs {
			s += " " + numberOf(r.From).String() + map[bool]string{false: "=", true: ">"}[r.Kid] + strconv.Itoa(r.N)
		}
		parts = append(parts, s)
	}
	s := strings.Join(parts, "; ")
	return s[:min(len(s), 2000)]
}

// short is bytes for a report: of long ones the first.
func short(b []byte) string {
	return hex.EncodeToString(b[:min(len(b), 200)])
}

// like tells whether two lists are of the same nodes.
func like(a, b []api.Node) bool {
	return slices.EqualFunc(a, b, func(x, y api.Node) bool { return x.Bits == y.Bits && slices.Equal(x.Runs, y.Runs) })
}

// cloned is a list that shares nothing with another one.
func cloned(l []api.Node) []api.Node {
	l = slices.Clone(l)
	for i := range l {
		l[i].Runs = slices.Clone(l[i].Runs)
	}
	return l
}

// runsAreRight tells by W9's words whether the runs of a node are, by numbers of any length.
func runsAreRight(n api.Node) bool {
	ahead := big.NewInt(-1)
	for i, r := range n.Runs {
		from := numberOf(r.From)
		if i == 0 && from.Sign() != 0 || from.Cmp(ahead) <= 0 || from.Cmp(power(n.Bits)) >= 0 {
			return false
		}
		if i > 0 && r.Kid == n.Runs[i-1].Kid && r.N == n.Runs[i-1].N {
			return false
		}
		ahead = from
	}
	return len(n.Runs) > 0
}

// wordsBy is what P1601 says of a node.
func wordsBy(n api.Node) (int, api.Errno) {
	switch {
	case n.Bits < 0 || n.Bits > 128:
		return 0, api.ErrArg
	case !runsAreRight(n):
		return 0, api.ErrOrder
	case n.Bits > 24:
		return 0, api.ErrSize
	case n.Bits == 0:
		return 1, api.OK
	}
	// As few words of 32 places as have 2^Bits.
	places, words := power(n.Bits).Int64(), 0
	for ; places > 0; places -= 32 {
		words++
	}
	return 2 + words + len(n.Runs), api.OK
}

// orderBy is the order of a right list, by chapter 12's words: the walk's places stand in a list, the last one is where it is.
func orderBy(l []api.Node) []int {
	type place struct{ node, left int } // so many of its runs are to be gone through
	var done []int
	met := map[int]bool{0: true}
	way := []place{{0, len(l[0].Runs)}}
	for len(way) > 0 {
		at := &way[len(way)-1]
		if at.left == 0 {
			done = append(done, at.node)
			way = way[:len(way)-1]
			continue
		}
		at.left--
		if r := l[at.node].Runs[at.left]; r.Kid && !met[r.N] {
			met[r.N] = true
			way = append(way, place{r.N, len(l[r.N].Runs)})
		}
	}
	slices.Reverse(done)
	return done
}

// placesBy is what P1602 says of Places.
func placesBy(family int, l []api.Node) (map[int]int, int, api.Errno) {
	if _, e := mtrie.Check(family, l); e != api.OK {
		return nil, 0, e
	}
	places, words := map[int]int{}, 0
	for _, number := range orderBy(l) {
		size, e := wordsBy(l[number])
		if e != api.OK {
			return nil, 0, e
		}
		places[number] = words
		words += size
	}
	return places, words, api.OK
}

// mapBy is a node's map as digits: its places are signs 0 and 1.
func mapBy(n api.Node) string {
	signs := []byte(strings.Repeat("0", max(32, 1<<n.Bits)))
	for _, r := range n.Runs {
		signs[numberOf(r.From).Int64()] = '1'
	}
	var s strings.Builder
	for piece := range slices.Chunk(signs, 32) {
		w, err := strconv.ParseUint(string(piece), 2, 32)
		if err != nil {
			panic(err)
		}
		fmt.Fprintf(&s, "%08x", w)
	}
	return s.String()
}

// codeBy is what P1603 says of Code, put together out of digits of sixteen.
func codeBy(family int, l []api.Node, most int) ([]byte, api.Errno) {
	places, words, e := placesBy(family, l)
	if e != api.OK {
		return nil, e
	}
	if most < 4*words || 4*words > 4194304 {
		return nil, api.ErrSize
	}
	var s strings.Builder
	for _, number := range orderBy(l) {
		n := l[number]
		if n.Bits > 0 {
			fmt.Fprintf(&s, "010000%02x020000%02x%s", n.Bits, n.Bits, mapBy(n))
		}
		for _, r := range n.Runs {
			if r.Kid {
				fmt.Fprintf(&s, "03%06x", places[r.N]-s.Len()/8)
			} else {
				fmt.Fprintf(&s, "0400%04x", r.N)
			}
		}
	}
	return unhex(s.String()), api.OK
}

// unhex is the bytes of digits of sixteen; blanks and commas between them are nothing.
func unhex(s string) []byte {
	b, err := hex.DecodeString(strings.NewReplacer(" ", "", ",", "").Replace(s))
	if err != nil {
		panic(err)
	}
	return b
}

// inOrderBy is a right list in its order, its numbers put in.
func inOrderBy(l []api.Node) []api.Node {
	order := orderBy(l)
	at := map[int]int{}
	for place, number := range order {
		at[number] = place
	}
	var out []api.Node
	for _, number := range order {
		n := cloned(l[number : number+1])[0]
		for i, r := range n.Runs {
			if r.Kid {
				n.Runs[i].N = at[r.N]
			}
		}
		out = append(out, n)
	}
	return out
}

// isRight tells whether a list is right for a family.
func isRight(family int, l []api.Node) bool {
	_, e := mtrie.Check(family, l)
	return e == api.OK
}

// joined is a node without neighbouring runs that say the same.
func joined(n api.Node) api.Node {
	n.Runs = slices.CompactFunc(n.Runs, func(a, b api.Run) bool { return a.Kid == b.Kid && a.N == b.N })
	return n
}

// someRuns are runs of a node of so many bits that begin at slots without a pattern, the edges of words and of the node among them; of each it is told what is in there.
func someRuns(next func() uint64, bits int, content func() (bool, int)) []api.Run {
	froms := map[api.Word]bool{{}: true}
	for range 1 + upTo(next, 9) {
		w := api.Word{Hi: next(), Lo: next()}
		switch upTo(next, 4) {
		case 0:
			w = lastSlot(bits)
		case 1:
			w = api.Word{Lo: []uint64{1, 2, 30, 31, 32, 33, 63, 64}[upTo(next, 8)]}
		case 2:
			w = api.Word{Lo: next() % 8}
		}
		froms[wordOf(new(big.Int).Mod(numberOf(w), power(bits)))] = true
	}
	order := slices.SortedFunc(maps.Keys(froms), func(a, b api.Word) int { return numberOf(a).Cmp(numberOf(b)) })
	var l []api.Run
	for _, from := range order {
		kid, n := content()
		l = append(l, api.Run{From: from, Kid: kid, N: n})
	}
	return l
}

// someList makes a right list for a family without a pattern, of nodes in whatever order; some are led to more than once. Its nodes have at most so many bits.
func someList(next func() uint64, family, most int) []api.Node {
	for {
		size := 1 + upTo(next, 12)
		leads := 1 + upTo(next, 3)
		l := make([]api.Node, size)
		for i := range l {
			bits := 1 + upTo(next, min(most, []int{2, 3, 7, 128}[upTo(next, 4)]))
			l[i] = joined(api.Node{Bits: bits, Runs: someRuns(next, bits, func() (bool, int) {
				if i < size-1 && upTo(next, 4) <= leads {
					return true, i + 1 + upTo(next, size-1-i)
				}
				return false, []int{0, 1, 258, 65535}[upTo(next, 4)]
			})})
		}
		if l = shuffled(next, reached(l)); isRight(family, l) {
			return l
		}
	}
}

// reached is a list without the nodes to which no way leads.
func reached(l []api.Node) []api.Node {
	met := map[int]bool{0: true}
	for i, n := range l {
		for _, r := range n.Runs {
			if r.Kid && met[i] {
				met[r.N] = true
			}
		}
	}
	return renumbered(l, slices.Sorted(maps.Keys(met)))
}

// renumbered is the nodes of these numbers, one behind the other.
func renumbered(l []api.Node, order []int) []api.Node {
	var out []api.Node
	for _, i := range order {
		n := cloned(l[i : i+1])[0]
		for k, r := range n.Runs {
			if r.Kid {
				n.Runs[k].N = slices.Index(order, r.N)
			}
		}
		out = append(out, n)
	}
	return out
}

// shuffled is the same nodes in another order in which each stands ahead of those to which it leads.
func shuffled(next func() uint64, l []api.Node) []api.Node {
	order := []int{0}
	for len(order) < len(l) {
		i := upTo(next, len(l))
		ready := !slices.Contains(order, i)
		for k, n := range l {
			ready = ready && (slices.Contains(order, k) || !slices.ContainsFunc(n.Runs, func(r api.Run) bool { return r.Kid && r.N == i }))
		}
		if ready {
			order = append(order, i)
		}
	}
	return renumbered(l, order)
}

// smallLists goes over all right lists of so many nodes of 1 bit and the next hops 0 and 1.
func smallLists(size int) func(yield func([]api.Node) bool) {
	return func(yield func([]api.Node) bool) {
		l := make([]api.Node, size)
		var lay func(i int) bool
		lay = func(i int) bool {
			if i < 0 {
				return !isRight(32, l) || yield(l)
			}
			kinds := []api.Run{{N: 0}, {N: 1}}
			for k := i + 1; k < size; k++ {
				kinds = append(kinds, api.Run{Kid: true, N: k})
			}
			for _, a := range kinds {
				for _, b := range kinds {
					b.From.Lo = 1
					l[i] = joined(api.Node{Bits: 1, Runs: []api.Run{a, b}})
					if !lay(i - 1) {
						return false
					}
				}
			}
			return true
		}
		lay(size - 1)
	}
}

// edges are right lists for both families at the edges that the document names, all of which can be laid.
func edges() [][]api.Node {
	var l [][]api.Node
	for _, text := range []string{
		// One node alone.
		"0 0=0", "0 0=9", "0 0=65535", "1 0=0", "1 0=5 1=0", "1 0=1 1=2", "4 0=1 15=2", "5 0=1 31=2", "6 0=1 31=2 32=3 63=4", "24 0=5", "24 0=5 16777215=6", "20 0=1 1=2 2=1 0xfffff=2",
		// Several, in order and out of order.
		"1 0>1; 1 0=1", "1 0>1 1=0; 1 0=1 1=65535", "1 0=7 1>1; 6 0=1 33=2", "1 0>1 1>2; 1 0=5; 1 0=6", "1 0>2 1>1; 1 0=5; 1 0=6", "2 0>3 1>2 2>1; 1 0=1; 1 0=2; 1 0=3", "2 0>1 1>2 2>3; 1 0=1; 1 0=2; 1 0=3",
		// Led to more than once: from one node, from several, from nodes that lead to one another.
		"2 0>1 1=3 2>1; 1 0=1", "1 0>1 1>2; 1 0>2 1=1; 1 0=3", "1 0>2 1>1; 1 0>2 1=1; 1 0=3", "1 0>1 1>2; 1 0>3 1=1; 1 0>3 1=2; 1 0=4", "2 0>3 1>1 2>2; 1 0>3; 1 0=1; 1 0=4 1=9", "2 0>3 1=0 2>1; 1 0>2 1>3; 1 0=1 1=0; 1 0=2 1=0",
		"2 0>4 1>3 2>2 3>1; 1 0>4 1=1; 1 0>4 1=2; 1 0>4 1=3; 1 0=9", "2 0>1 1>2 2>3 3>4; 1 0>4 1=1; 1 0>4 1=2; 1 0>4 1=3; 1 0=9",
		// Equal ones: each is laid.
		"1 0>1 1>2; 1 0=5 1=6; 1 0=5 1=6",
		// Far behind one another.
		"1 0>1 1>2; 14 0=1 16383=2; 14 0>3 9=1; 17 0=1", "8 0>1 255>2; 20 0=1; 22 0=2",
		// As many bits as there are.
		"8 0>1; 8 0>2; 8 0>3; 8 0=9", "20 0>1 9=1; 12 0=1",
	} {
		l = append(l, nodesOf(text))
	}
	return append(l, chain(32))
}

// edges128 are more of them for the family 128 alone.
func edges128() [][]api.Node {
	return [][]api.Node{chain(128), doubling(64), nodesOf("16 0>1; 16 0>2; 16 0>3; 16 0>4; 16 0>5; 16 0>6; 16 0>7; 16 0=1")}
}

// tooWide are right lists for 128 that have a node of more than MaxBits bits.
func tooWide() [][]api.Node {
	var l [][]api.Node
	for _, text := range []string{"25 0=1", "26 0=1", "32 0=1", "64 0=1", "127 0=1", "128 0=1", "128 0=1 0xffffffffffffffffffffffffffffffff=2", "25 0>1; 1 0=1", "1 0>1; 25 0=1", "1 0>1 1>2; 1 0=1; 25 0=1", "1 0>1 1>2; 25 0=1; 1 0=1", "1 0>1; 1 0>2; 1 0>3; 100 0=1"} {
		l = append(l, nodesOf(text))
	}
	return l
}

// wrong are lists that are not right, with mtrie.Check's errors by 32 and by 128.
var wrong = []struct {
	text      string
	four, six api.Errno
}{
	{"", api.ErrNone, api.ErrNone},
	{"-1 0=1", api.ErrArg, api.ErrArg}, {"129 0=1", api.ErrArg, api.ErrArg}, {"1 0>1; 0 0=1", api.ErrArg, api.ErrArg}, {"0 0>1; 1 0=1", api.ErrArg, api.ErrArg}, {"0 0=1; 0 0=1", api.ErrArg, api.ErrArg},
	{"0", api.ErrOrder, api.ErrOrder}, {"0 0=1 1=2", api.ErrOrder, api.ErrOrder}, {"1", api.ErrOrder, api.ErrOrder}, {"1 1=1", api.ErrOrder, api.ErrOrder}, {"1 0=1 0=2", api.ErrOrder, api.ErrOrder}, {"1 0=1 2=2", api.ErrOrder, api.ErrOrder}, {"1 0=1 1=1", api.ErrOrder, api.ErrOrder}, {"1 0>1 1>1; 1 0=1", api.ErrOrder, api.ErrOrder}, {"1 0>1 1>2; 1 0=1; 2 0=1 2=2 1=3", api.ErrOrder, api.ErrOrder},
	{"1 0=-1", api.ErrHop, api.ErrHop}, {"0 0=65536", api.ErrHop, api.ErrHop}, {"1 0=65536", api.ErrHop, api.ErrHop}, {"1 0>1 1>2; 1 0=1; 1 0=65536", api.ErrHop, api.ErrHop},
	{"0 0>0", api.ErrJump, api.ErrJump}, {"1 0>0", api.ErrJump, api.ErrJump}, {"1 0>1", api.ErrJump, api.ErrJump}, {"1 0>-1", api.ErrJump, api.ErrJump}, {"1 0>1; 1 0>1", api.ErrJump, api.ErrJump}, {"1 0>1; 1 0>0", api.ErrJump, api.ErrJump}, {"1 0>1 1>2; 1 0=1; 1 0>3", api.ErrJump, api.ErrJump},
	{"1 0=1; 1 0=1", api.ErrUnused, api.ErrUnused}, {"1 0>2; 1 0>2; 1 0=1", api.ErrUnused, api.ErrUnused}, {"1 0>1; 1 0=1; 1 0=1", api.ErrUnused, api.ErrUnused},
	// By 128 these are right, but cannot be laid.
	{"33 0=1", api.ErrBits, api.OK}, {"128 0=1", api.ErrBits, api.OK}, {"1 0>1; 32 0=1", api.ErrBits, api.OK}, {"100 0>1; 100 0=1", api.ErrBits, api.ErrBits}, {"1 0>1; 128 0=1", api.ErrBits, api.ErrBits}, {"128 0>1; 1 0=1", api.ErrBits, api.ErrBits},
	// Several faults; a node that cannot be laid comes behind all of them.
	{"129 1=65536", api.ErrArg, api.ErrArg}, {"1 0>0; 129 0=1", api.ErrJump, api.ErrJump}, {"100 0>1; 100 0=1; 1 0=1", api.ErrUnused, api.ErrUnused}, {"128 0>1; 128 0>2; 1", api.ErrOrder, api.ErrOrder},
	{"25 0>1; 129 0=1", api.ErrArg, api.ErrArg}, {"25 1=1", api.ErrOrder, api.ErrOrder}, {"25 0=1; 0 0=1", api.ErrArg, api.ErrArg}, {"25 0=65536", api.ErrHop, api.ErrHop}, {"25 0>0", api.ErrJump, api.ErrJump}, {"25 0=1; 25 0=1", api.ErrUnused, api.ErrUnused}, {"25 0>1; 25 0=1", api.ErrBits, api.OK}, {"1 0>1; 1 0>2 1>3; 25 0=1; 31 0=1", api.ErrBits, api.OK},
}

// chain is a list of so many nodes of 1 bit, each of which leads to the next one alone.
func chain(size int) []api.Node {
	var l []api.Node
	for i := range size - 1 {
		l = append(l, api.Node{Bits: 1, Runs: []api.Run{{Kid: true, N: i + 1}}})
	}
	return append(l, nodesOf("1 0=1")...)
}

// doubling is a list of so many nodes of 2 bits, each of which leads to the next one twice: more ways than anybody could go down.
func doubling(size int) []api.Node {
	var l []api.Node
	for i := range size - 1 {
		l = append(l, api.Node{Bits: 2, Runs: []api.Run{{Kid: true, N: i + 1}, {From: api.Word{Lo: 1}, N: 7}, {From: api.Word{Lo: 2}, Kid: true, N: i + 1}}})
	}
	return append(l, nodesOf("2 0=1")...)
}

// fan is a list of a node that leads to so many others, which are all alike.
func fan(bits, kids int, kid api.Node) []api.Node {
	l := make([]api.Node, 1+kids)
	l[0] = api.Node{Bits: bits, Runs: make([]api.Run, kids)}
	for i := range kids {
		l[0].Runs[i] = api.Run{From: api.Word{Lo: uint64(i)}, Kid: true, N: 1 + i}
		l[1+i] = kid
	}
	return l
}

// someTable is one of routes without a pattern, and of few next hops.
func someTable(next func() uint64, family int) api.Table {
	root := next() &^ (1<<40 - 1)
	m := map[api.Prefix]int{}
	for range upTo(next, 60) {
		length := upTo(next, 25)
		m[api.Prefix{Addr: api.Word{Hi: (root ^ next()>>12) &^ (math.MaxUint64 >> length)}, Len: length}] = 1 + upTo(next, 3)
	}
	var routes []api.Route
	for at, hop := range m {
		routes = append(routes, api.Route{At: at, Hop: hop})
	}
	slices.SortFunc(routes, func(a, b api.Route) int {
		return numberOf(a.At.Addr).Cmp(numberOf(b.At.Addr))*2 + big.NewInt(int64(a.At.Len)).Cmp(big.NewInt(int64(b.At.Len)))
	})
	return api.Table{W: family, Routes: routes}
}

// built are lists of tables: as mtrie.Build tells them, and of equal nodes one alone.
func built(next func() uint64, family, tables int) [][]api.Node {
	var l [][]api.Node
	for range tables {
		x := someTable(next, family)
		for _, bits := range []int{1, 3, 8} {
			plan, e := stride.Even(x, bits)
			if e != api.OK {
				panic(e.Error())
			}
			nodes, e := mtrie.Build(x, plan)
			if e != api.OK {
				panic(e.Error())
			}
			few, e := share.Share(family, nodes)
			if e != api.OK {
				panic(e.Error())
			}
			l = append(l, nodes, few)
		}
	}
	return l
}

// samples are right lists for a family, of all kinds, all of which can be laid.
func samples(family int) [][]api.Node {
	next := counter()
	l := edges()
	if family == 128 {
		l = append(l, edges128()...)
	}
	for range 2000 {
		l = append(l, someList(next, family, 12))
	}
	return append(l, built(next, family, 20)...)
}

// spoil changes a list in one place, so that it may not be right, or have a node that cannot be laid.
func spoil(next func() uint64, l []api.Node) []api.Node {
	l = cloned(l)
	n := &l[upTo(next, len(l))]
	at := upTo(next, len(n.Runs))
	r := &n.Runs[at]
	switch upTo(next, 10) {
	case 0:
		n.Bits = []int{-1, 0, 129, 1, 128, 25, n.Bits + 1}[upTo(next, 7)]
	case 1:
		r.N = []int{-1, 65535, 65536, 0, 1, len(l) - 1, len(l)}[upTo(next, 7)]
	case 2:
		r.Kid = !r.Kid
	case 3:
		r.From = api.Word{Hi: next() % 2, Lo: next() % 3}
	case 4:
		*r = n.Runs[0]
	case 5:
		n.Runs = slices.Delete(n.Runs, at, at+1)
	case 6:
		l = append(l, api.Node{Bits: 1, Runs: []api.Run{{}}})
	case 7:
		l = l[:len(l)-1]
	case 8:
		r.Kid, r.N = true, upTo(next, len(l))
	case 9:
		n.Bits = 25 + upTo(next, 8)
	}
	return l
}

// guarded lays a list into another one with marks ahead of it, and in its spare room; what it answers beside says whether all is as it was.
func guarded[T any](l []T, mark T, same func(a, b T) bool) ([]T, func() bool) {
	const more = 3
	whole := slices.Repeat([]T{mark}, len(l)+2*more)
	copy(whole[more:], l)
	was := slices.Clone(whole)
	return whole[more : more+len(l)], func() bool { return slices.EqualFunc(whole, was, same) }
}

// guardedNodes does so with nodes, and with the runs of each.
func guardedNodes(l []api.Node) ([]api.Node, func() bool) {
	var all []func() bool
	own := slices.Clone(l)
	for i, n := range l {
		runs, asTheyWere := guarded(n.Runs, markRun, func(a, b api.Run) bool { return a == b })
		own[i].Runs = runs
		all = append(all, asTheyWere)
	}
	nodes, asTheyWere := guarded(own, markNode, func(a, b api.Node) bool {
		return a.Bits == b.Bits && len(a.Runs) == len(b.Runs) && (len(a.Runs) == 0 || &a.Runs[0] == &b.Runs[0])
	})
	all = append(all, asTheyWere)
	return nodes, func() bool {
		return !slices.ContainsFunc(all, func(asItWas func() bool) bool { return !asItWas() })
	}
}

// overwrite puts marks over all of a list, its spare room too.
func overwrite[T any](l []T, mark T) {
	l = l[:cap(l)]
	for i := range l {
		l[i] = mark
	}
}

func TestSamplesAreSound(t *testing.T) {
	text := "1 0>1 1=9; 127 0=1 18446744073709551618=0"
	if l := nodesOf(text); textOf(l) != text || l[0].Runs[0] != (api.Run{Kid: true, N: 1}) || l[1].Runs[1] != (api.Run{From: api.Word{Hi: 1, Lo: 2}}) {
		t.Errorf("nodes: %v", l)
	}
	if lastSlot(0) != (api.Word{}) || lastSlot(65) != (api.Word{Hi: 1, Lo: math.MaxUint64}) || oneMore(64) != (api.Word{Hi: 1}) || oneMore(128) != (api.Word{}) {
		t.Error("slots are not as they are")
	}
	if s := mapBy(nodesOf("6 0=1 3=2 31=3 32=4 63=5")[0]); s != "9000000180000001" || mapBy(nodesOf("1 0=1 1=2")[0]) != "c0000000" {
		t.Errorf("a map is not as it is: %s", s)
	}
	for _, x := range []struct {
		text, want string
	}{
		{"2 0>3 1>2 2>1; 1 0=1; 1 0=2; 1 0=3", "2 0>1 1>2 2>3; 1 0=3; 1 0=2; 1 0=1"},
		{"1 0>2 1>1; 1 0>2 1=1; 1 0=3", "1 0>2 1>1; 1 0>2 1=1; 1 0=3"},
		{"1 0>1 1>2; 1 0>4 1>3; 1 0=0 1=1; 1 0=2 1=3; 1 0=4 1=5", "1 0>1 1>4; 1 0>2 1>3; 1 0=4 1=5; 1 0=2 1=3; 1 0=0 1=1"},
	} {
		if s := textOf(inOrderBy(nodesOf(x.text))); s != x.want {
			t.Errorf("%s in order is %s", x.text, s)
		}
	}
	nodes, asTheyWere := guardedNodes(nodesOf("1 0>1 1=9; 1 0=1"))
	if !asTheyWere() {
		t.Error("nothing is changed, but it is told")
	}
	_ = append(nodes[1].Runs, api.Run{})
	if asTheyWere() {
		t.Error("spare room is changed, but it is not told")
	}
	for _, l := range tooWide() {
		if !isRight(128, l) {
			t.Errorf("%s is not right", textOf(l))
		}
	}
	for _, family := range families {
		moved, twice := 0, 0
		for _, l := range samples(family) {
			if !isRight(family, l) {
				t.Fatalf("%s is not right", textOf(l))
			}
			if !like(inOrderBy(l), l) {
				moved++
			}
			leads := map[int]int{}
			for _, n := range l {
				for _, r := range n.Runs {
					if r.Kid {
						leads[r.N]++
					}
				}
			}
			if slices.ContainsFunc(slices.Collect(maps.Values(leads)), func(n int) bool { return n > 1 }) {
				twice++
			}
		}
		if moved < 300 || twice < 500 {
			t.Errorf("by %d: only %d lists are out of order, only %d have a node that is led to more than once", family, moved, twice)
		}
	}
}
