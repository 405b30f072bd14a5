package emit

import (
	"bytes"
	"math/big"
	"slices"
	"testing"

	"turnpike/api"
	"turnpike/code"
	"turnpike/mtrie"
	"turnpike/share"
	"turnpike/verify"
)

// isGapless asks that nodes lie one behind the other, from word 0 on, node 0 first, and that each leads to greater places only.
func isGapless(t *testing.T, l []api.Node, places []int, words int) {
	t.Helper()
	if len(places) != len(l) || places[0] != 0 {
		t.Fatalf("P1602: %d places of %d nodes, node 0 at %v", len(places), len(l), places[:1])
	}
	order := make([]int, len(l))
	for number := range order {
		order[number] = number
	}
	slices.SortFunc(order, func(a, b int) int { return places[a] - places[b] })
	at := 0
	for _, number := range order {
		if places[number] != at {
			t.Fatalf("P1602: node %d begins at %d, want %d", number, places[number], at)
		}
		size, e := Words(l[number])
		if e != api.OK {
			t.Fatalf("P1601: node %d: %v", number, e)
		}
		at += size
		for _, r := range l[number].Runs {
			if r.Kid && places[r.N] <= places[number] {
				t.Fatalf("P1604: node %d at %d leads to node %d at %d", number, places[number], r.N, places[r.N])
			}
		}
	}
	if at != words {
		t.Fatalf("P1602: %d words, want %d", words, at)
	}
}

// TestP1604Places: behind one another without gaps, as Order tells them.
func TestP1604Places(t *testing.T) {
	for _, family := range families {
		for _, l := range samples(family) {
			places, words := placesOf(t, family, l)
			isGapless(t, l, places, words)
			order := orderOf(t, family, l)
			if order[0] != 0 || !slices.IsSortedFunc(order, func(a, b int) int { return places[a] - places[b] }) {
				t.Fatalf("P1602: the order of %s is %v, its places are %v", textOf(l), order, places)
			}
		}
	}
}

// block is one of code that may be run, as chapter 18 says it: where it begins, its bits, where its runs begin, its entries with their places.
type block struct {
	at, bits int
	froms    []int
	entries  []api.Instr
	places   []int
}

// blocksOf reads code as blocks; false, if it is none.
func blocksOf(b []byte) ([]block, bool) {
	var l []block
	for at := 0; 4*at < len(b); {
		x := block{at: at}
		extract, size, e := code.Decode(b, at)
		if e != api.OK || extract.Op != api.OExtract {
			return nil, false
		}
		at += size
		index, size, e := code.Decode(b, at)
		if e != api.OK || index.Op != api.OIndex || index.N != extract.N {
			return nil, false
		}
		at += size
		x.bits = index.N
		for place := range 32 * len(index.Map) {
			if index.Map[place/32]<<(place%32)>>31 == 0 {
				continue
			}
			i, size, e := code.Decode(b, at)
			if e != api.OK || i.Op != api.OReturn && i.Op != api.OJump {
				return nil, false
			}
			x.froms, x.entries, x.places = append(x.froms, place), append(x.entries, i), append(x.places, at)
			at += size
		}
		l = append(l, x)
	}
	return l, true
}

// treeOf is the nodes of code that may be run, as P1803 says them; false, if it may not be, by the blocks' words alone.
func treeOf(b []byte) ([]api.Node, bool) {
	if i, size, e := code.Decode(b, 0); e == api.OK && i.Op == api.OReturn {
		return []api.Node{{Runs: []api.Run{{N: i.N}}}}, len(b) == 4*size
	}
	blocks, ok := blocksOf(b)
	number := map[int]int{}
	for i, x := range blocks {
		number[x.at] = i
	}
	var l []api.Node
	for _, x := range blocks {
		n := api.Node{Bits: x.bits}
		for k, i := range x.entries {
			r := api.Run{From: api.Word{Lo: uint64(x.froms[k])}, N: i.N}
			if i.Op == api.OJump {
				to, begins := number[x.places[k]+i.N]
				r.Kid, r.N, ok = true, to, ok && begins
			}
			n.Runs = append(n.Runs, r)
		}
		l = append(l, n)
	}
	return l, ok && len(l) > 0
}

// TestP1604Tree: the code is blocks, and nothing else; they are the list in its order, and so right, of the same depth.
func TestP1604Tree(t *testing.T) {
	for _, family := range families {
		for _, l := range samples(family) {
			tree, ok := treeOf(codeOf(t, family, l))
			if !ok || !like(tree, inOrderBy(l)) {
				t.Fatalf("P1604: the code of %s is that of %s, %v", textOf(l), textOf(tree), ok)
			}
			depth, _ := mtrie.Check(family, l)
			if d, e := mtrie.Check(family, tree); d != depth || e != api.OK {
				t.Fatalf("P1604: the code of %s has the depth %d, %v, want %d", textOf(l), d, e, depth)
			}
		}
	}
}

// TestP1604Verified: verify takes the code, and tells its depth, and the list in its order.
func TestP1604Verified(t *testing.T) {
	for _, family := range families {
		for _, l := range samples(family) {
			b := codeOf(t, family, l)
			depth, _ := mtrie.Check(family, l)
			if d, at, e := verify.Code(family, b); d != depth || at != 0 || e != api.OK {
				t.Fatalf("P1604: the code of %s: %d, %d, %v, want the depth %d", textOf(l), d, at, e, depth)
			}
			if tree, e := verify.Tree(family, b); e != api.OK || !like(tree, inOrderBy(l)) {
				t.Fatalf("P1604: the code of %s is that of %s, %v", textOf(l), textOf(tree), e)
			}
		}
	}
}

// TestP1604Again: the code of what is read from code is the code.
func TestP1604Again(t *testing.T) {
	for _, family := range families {
		for _, l := range samples(family) {
			b := codeOf(t, family, l)
			tree, _ := treeOf(b)
			if again := codeOf(t, family, tree); !bytes.Equal(again, b) {
				t.Fatalf("P1604: the code of %s is another one, once it was read", textOf(l))
			}
		}
	}
}

// TestP1604Shuffled: the same nodes in whatever order they stand in the list have one code.
func TestP1604Shuffled(t *testing.T) {
	next := counter()
	for range 500 {
		l := someList(next, 32, 12)
		b := codeOf(t, 32, l)
		for range 4 {
			l = shuffled(next, l)
			if other := codeOf(t, 32, l); !bytes.Equal(other, b) {
				t.Fatalf("P1603: %s has another code", textOf(l))
			}
		}
	}
}

// TestP1604Shared: what share.Share tells is in its order already.
func TestP1604Shared(t *testing.T) {
	for _, family := range families {
		for _, l := range samples(family) {
			s, e := share.Share(family, l)
			if e != api.OK {
				t.Fatal(e)
			}
			if order := orderOf(t, family, s); !slices.IsSorted(order) {
				t.Fatalf("P1602: the order of %s is %v", textOf(s), order)
			}
		}
	}
}

// answerOf runs code for an address, by the words of the document's instructions: where it ends; false, if it goes astray.
func answerOf(b []byte, address *big.Int, family int) (int, bool) {
	at, taken, slot := 0, 0, 0
	for range 3*128 + 1 {
		i, size, e := code.Decode(b, at)
		if e != api.OK {
			return 0, false
		}
		switch i.Op {
		case api.OExtract:
			left := family - taken - i.N
			if left < 0 {
				return 0, false
			}
			slot = int(new(big.Int).Mod(new(big.Int).Rsh(address, uint(left)), power(i.N)).Int64())
			taken += i.N
			at += size
		case api.OIndex:
			at += size - 1
			for place := range slot + 1 {
				at += int(i.Map[place/32] << (place % 32) >> 31)
			}
		case api.OJump:
			at += i.N
		case api.OReturn:
			return i.N, true
		}
	}
	return 0, false
}

// TestP1604Answers: a run of the code answers each address as the nodes do.
func TestP1604Answers(t *testing.T) {
	next := counter()
	for _, family := range families {
		for _, l := range samples(family) {
			b := codeOf(t, family, l)
			for range 5 {
				w := api.Word{Hi: next(), Lo: next()}
				if upTo(next, 3) == 0 {
					w = api.Word{Hi: w.Hi &^ (1<<(32+upTo(next, 32)) - 1)}
				}
				if family == 32 {
					w = api.Word{Hi: w.Hi &^ (1<<32 - 1)}
				}
				hop, e := mtrie.Lookup(family, l, w)
				if e != api.OK {
					t.Fatal(e)
				}
				address := numberOf(w)
				address.Rsh(address, uint(128-family))
				if h, ok := answerOf(b, address, family); h != hop || !ok {
					t.Fatalf("P1604: %x in the code of %s goes to %d, %v, want %d", address, textOf(l), h, ok, hop)
				}
			}
		}
	}
}

// TestP1605: no node has more words than twice its slots and two.
func TestP1605(t *testing.T) {
	atMost := func(n api.Node) {
		t.Helper()
		size, e := Words(n)
		if most := 2<<n.Bits + 2; e != api.OK || size > most {
			t.Errorf("P1605: a node of %d bits and %d runs has %d words, %v", n.Bits, len(n.Runs), size, e)
		}
	}
	for bits := range 21 {
		atMost(runsOf(bits, 1))
		atMost(runsOf(bits, 1<<bits))
	}
	for bits := 21; bits <= 24; bits++ {
		atMost(runsOf(bits, 1))
	}
	for _, family := range families {
		for _, l := range samples(family) {
			_, words := placesOf(t, family, l)
			most := 0
			for _, n := range l {
				atMost(n)
				most += 2<<n.Bits + 2
			}
			if words > most {
				t.Errorf("P1605: %s has %d words", textOf(l), words)
			}
		}
	}
}

// mine are the lists of the tests on memory, and limits for them.
func mine() [][]api.Node {
	l := append(slices.Concat(edges(), tooWide()), nil, []api.Node{{Bits: 1}})
	for _, x := range wrong {
		l = append(l, nodesOf(x.text))
	}
	return l
}

// TestP2NothingIsChanged: neither what is handed in, nor its spare room.
func TestP2NothingIsChanged(t *testing.T) {
	for _, l := range mine() {
		for _, family := range []int{32, 128, 64} {
			nodes, asTheyWere := guardedNodes(l)
			order, _ := Order(family, nodes)
			places, _, _ := Places(family, nodes)
			b, _ := Code(family, nodes, api.MaxImage)
			short, _ := Code(family, nodes, 3)
			for _, n := range nodes {
				if _, e := Words(n); e != api.OK && e != api.ErrArg && e != api.ErrOrder && e != api.ErrSize {
					t.Errorf("P1601: %v", e)
				}
			}
			overwrite(order, -7)
			overwrite(places, -7)
			overwrite(b, 0x77)
			overwrite(short, 0x77)
			if !asTheyWere() {
				t.Errorf("P2: %s is changed", textOf(l))
			}
		}
	}
}

// TestP2AnswersAreTheCallersOwn: writing over an answer changes no later one; nor does writing over what was handed in.
func TestP2AnswersAreTheCallersOwn(t *testing.T) {
	for _, l := range edges() {
		nodes := cloned(l)
		order, b := orderOf(t, 128, nodes), codeOf(t, 128, nodes)
		places, words := placesOf(t, 128, nodes)
		keptOrder, keptPlaces, kept := slices.Clone(order), slices.Clone(places), slices.Clone(b)
		for _, n := range nodes {
			overwrite(n.Runs, markRun)
		}
		overwrite(nodes, markNode)
		if !slices.Equal(order, keptOrder) || !slices.Equal(places, keptPlaces) || !bytes.Equal(b, kept) {
			t.Errorf("P2: what was told of %s hangs on what was handed in", textOf(l))
		}
		overwrite(order, -7)
		overwrite(places, -7)
		overwrite(b, 0x77)
		if !slices.Equal(orderOf(t, 128, l), keptOrder) || !bytes.Equal(codeOf(t, 128, l), kept) {
			t.Errorf("P2: what is told of %s is another thing, once the answer is written over", textOf(l))
		}
		if p, w := placesOf(t, 128, l); !slices.Equal(p, keptPlaces) || w != words {
			t.Errorf("P2: the places of %s are other ones, once the answer is written over", textOf(l))
		}
	}
}

// TestP2NoListIsAnEmptyOne: nil and a list of none are the same.
func TestP2NoListIsAnEmptyOne(t *testing.T) {
	for _, family := range families {
		for _, l := range [][]api.Node{nil, {}} {
			_, e := Order(family, l)
			_, _, f := Places(family, l)
			_, g := Code(family, l, api.MaxImage)
			if e != api.ErrNone || f != api.ErrNone || g != api.ErrNone {
				t.Errorf("P2: of no nodes: %v, %v, %v", e, f, g)
			}
		}
		for _, runs := range [][]api.Run{nil, {}} {
			l := []api.Node{{Bits: 1, Runs: runs}}
			_, e := Order(family, l)
			_, f := Words(l[0])
			if e != api.ErrOrder || f != api.ErrOrder {
				t.Errorf("P2: of no runs: %v, %v", e, f)
			}
		}
	}
}

// TestP2SharedRuns: nodes that are handed in with one list of runs are laid as others are.
func TestP2SharedRuns(t *testing.T) {
	runs := []api.Run{{N: 1}, {From: api.Word{Lo: 1}, N: 2}}
	l := []api.Node{nodesOf("1 0>2 1>1")[0], {Bits: 1, Runs: runs}, {Bits: 2, Runs: runs}}
	if b, want := codeOf(t, 32, l), codeOf(t, 32, cloned(l)); !bytes.Equal(b, want) {
		t.Errorf("P2: %x, want %x", b, want)
	}
}

// TestP3AtOnce: calls that go on at the same time tell what they tell one behind the other.
func TestP3AtOnce(t *testing.T) {
	lists := samples(32)[:400]
	var want [][]byte
	for _, l := range lists {
		want = append(want, codeOf(t, 32, l))
	}
	done := make(chan int)
	for range 4 {
		go func() {
			wrong := 0
			for i, l := range lists {
				if b, e := Code(32, l, api.MaxImage); e != api.OK || !bytes.Equal(b, want[i]) {
					wrong++
				}
			}
			done <- wrong
		}()
	}
	for range 4 {
		if wrong := <-done; wrong > 0 {
			t.Errorf("P3: %d codes are other ones", wrong)
		}
	}
}
