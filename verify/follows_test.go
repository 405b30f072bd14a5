package verify

import (
	"bytes"
	"slices"
	"testing"

	"turnpike/api"
	"turnpike/code"
	"turnpike/emit"
	"turnpike/mtrie"
	"turnpike/vm"
)

// bitsOf is so many bits of an address from a place on, as a number.
func bitsOf(w api.Word, at, size int) int {
	n := 0
	for i := at; i < at+size; i++ {
		bit := w.Hi >> (63 - i%64) & 1
		if i >= 64 {
			bit = w.Lo >> (63 - i%64) & 1
		}
		n = 2*n + int(bit)
	}
	return n
}

// runBy runs code for an address, by the words of chapter 19: where it leads, in how many steps; an error, if it goes astray.
func runBy(family int, b []byte, w api.Word) (hop, steps int, e api.Errno) {
	at, taken, slot, held := 0, 0, 0, 0
	for {
		i, size, e := code.Decode(b, at)
		if e != api.OK {
			return 0, steps, e
		}
		steps++
		asked := held
		held = 0
		switch i.Op {
		case api.OExtract:
			if taken+i.N > family {
				return 0, steps, api.ErrBits
			}
			slot, held = bitsOf(w, taken, i.N), i.N
			taken += i.N
			at++
		case api.OIndex:
			if asked != i.N {
				return 0, steps, api.ErrMap
			}
			at += size - 1
			for place := range slot + 1 {
				at += int(i.Map[place/32] << (place % 32) >> 31)
			}
		case api.OJump:
			at += i.N
		case api.OReturn:
			return i.N, steps, api.OK
		}
	}
}

// isRunAlike asks that a run of the program's own, with as much fuel as code of that depth needs, tells the same.
func isRunAlike(t *testing.T, family int, b []byte, w api.Word, depth, hop, steps int) {
	t.Helper()
	r := vm.Run(family, b, w, max(1, 3*depth))
	if r.Hop != hop || r.Steps != steps || r.Err != api.OK || r.Extracts > depth || r.Indexes > depth {
		t.Fatalf("P1804: %x in %s: %+v; want %d in %d steps, and the depth is %d", w, short(b), r, hop, steps, depth)
	}
}

// someAddress is one of a family, without a pattern; of some most bits are 0, or are 1.
func someAddress(next func() uint64, family int) api.Word {
	w := api.Word{Hi: next(), Lo: next()}
	switch upTo(next, 5) {
	case 0:
		w = api.Word{Hi: next() & next() & next(), Lo: next() & next() & next()}
	case 1:
		w = api.Word{Hi: next() | next() | next(), Lo: next() | next() | next()}
	case 2:
		w = api.Word{}
	}
	if family == 32 {
		w = api.Word{Hi: w.Hi >> 32 << 32}
	}
	return w
}

// addresses are all of a tree that takes few bits, as far as it can tell them apart; else some.
func addresses(next func() uint64, family int, l []api.Node) []api.Word {
	most := 0
	for _, n := range l {
		most += n.Bits
	}
	var words []api.Word
	if most <= 8 {
		for k := range 1 << most {
			words = append(words, api.Word{Hi: uint64(k) << (64 - most)})
		}
		return words
	}
	for range 20 {
		words = append(words, someAddress(next, family))
	}
	return words
}

// TestP1804Right: what Tree tells is right, and of the depth that Code tells.
func TestP1804Right(t *testing.T) {
	for _, family := range families {
		for _, l := range samples(family) {
			b := laid(l)
			depth, _, e := Code(family, b)
			if d, f := mtrie.Check(family, treeOf(t, family, b)); d != depth || f != api.OK || e != api.OK {
				t.Fatalf("P1804: the tree of %s: %d, %v; want %d, %v", short(b), d, f, depth, e)
			}
		}
	}
}

// TestP1804Answers: a run of the code ends without an error, in so many steps, and answers as the tree does.
func TestP1804Answers(t *testing.T) {
	next := counter()
	longest := 0
	for _, family := range families {
		for _, l := range samples(family) {
			b := laid(l)
			tree := treeOf(t, family, b)
			depth, _, _ := Code(family, b)
			for _, w := range addresses(next, family, tree) {
				want, _ := mtrie.Lookup(family, tree, w)
				hop, steps, e := runBy(family, b, w)
				if hop != want || e != api.OK || steps > max(1, 3*depth) {
					t.Fatalf("P1804: %x in %s: %d, %v in %d steps; want %d, and the depth is %d", w, short(b), hop, e, steps, want, depth)
				}
				isRunAlike(t, family, b, w, depth, hop, steps)
				if known, _ := mtrie.Lookup(family, l, w); want != known {
					t.Fatalf("P1804: %x in %s: %d, want %d", w, textOf(tree), want, known)
				}
				if steps == max(1, 3*depth) {
					longest++
				}
			}
		}
	}
	if longest < 1000 {
		t.Errorf("only %d runs take all steps there are", longest)
	}
}

// TestP1804WhateverIsTaken: the same of code that was spoilt, and may be run still.
func TestP1804WhateverIsTaken(t *testing.T) {
	next := counter()
	taken := 0
	for range 30000 {
		b := spoil(next, laid(one(next, someList(next, 128), someChain(next))))
		for _, family := range families {
			depth, _, e := Code(family, b)
			if e != api.OK {
				continue
			}
			taken++
			tree := treeOf(t, family, b)
			for range 5 {
				w := someAddress(next, family)
				want, f := mtrie.Lookup(family, tree, w)
				hop, steps, e := runBy(family, b, w)
				if hop != want || e != api.OK || f != api.OK || steps > max(1, 3*depth) {
					t.Fatalf("P1804: %x in %s: %d, %v in %d steps; want %d, %v, and the depth is %d", w, short(b), hop, e, steps, want, f, depth)
				}
				isRunAlike(t, family, b, w, depth, hop, steps)
			}
		}
	}
	if taken < 1000 {
		t.Errorf("only %d codes may be run", taken)
	}
}

// isEmittedAlike asks that emit.Code of a tree is code that answers alike; the code itself, if its blocks stand in the order of the list: whether they do.
func isEmittedAlike(t *testing.T, next func() uint64, family int, b []byte) bool {
	t.Helper()
	tree := treeOf(t, family, b)
	again, e := emit.Code(family, tree, api.MaxImage)
	order, _ := emit.Order(family, tree)
	if e != api.OK {
		t.Fatalf("P1805: the code of %s: %v", textOf(tree), e)
	}
	ordered := slices.IsSorted(order)
	if bytes.Equal(again, b) != ordered {
		t.Fatalf("P1805: %s is %s again; in order: %v", short(b), short(again), ordered)
	}
	depth, _, _ := Code(family, b)
	isTold(t, family, again, depth, 0, api.OK)
	for _, w := range addresses(next, family, tree) {
		want, _, _ := runBy(family, b, w)
		if hop, _, e := runBy(family, again, w); hop != want || e != api.OK {
			t.Fatalf("P1805: %x in %s: %d, %v; want %d", w, short(again), hop, e, want)
		}
	}
	return ordered
}

// TestP1805AnyOrder: of lists that are laid in the order in which they stand.
func TestP1805AnyOrder(t *testing.T) {
	next := counter()
	for _, family := range families {
		ordered, others := 0, 0
		for _, l := range samples(family) {
			if b := laid(l); isEmittedAlike(t, next, family, b) {
				ordered++
			} else {
				others++
			}
		}
		if ordered < 200 || others < 200 {
			t.Errorf("only %d in order, %d in another one", ordered, others)
		}
	}
}

// TestP1805ByHand: blocks in the order of the list, and in another one.
func TestP1805ByHand(t *testing.T) {
	next := counter()
	for text, ordered := range map[string]bool{
		"0 0=9": true, "1 0=5 1=0": true, "1 0>1; 1 0=1": true, "1 0>1 1>2; 1 0=5; 1 0=6": true, "1 0>2 1>1; 1 0=5; 1 0=6": false, "2 0>1 1>2 2>3; 1 0=1; 1 0=2; 1 0=3": true, "2 0>1 1>3 2>2; 1 0=1; 1 0=2; 1 0=3": false, "1 0>1 1>2; 1 0>3 1=1; 1 0>3 1=2; 1 0=4": true, "1 0>2 1>1; 1 0>3 1=1; 1 0>3 1=2; 1 0=4": false,
	} {
		for _, family := range families {
			if isEmittedAlike(t, next, family, laid(nodesOf(text))) != ordered {
				t.Errorf("P1805: %s is in order: %v", text, !ordered)
			}
		}
	}
}

// mine are codes of the tests on memory: such that may be run, and such that may not.
func mine() [][]byte {
	l := [][]byte{nil, {4, 0, 0}, laid(chain(append(steps(128), 1)...))}
	for _, nodes := range edges() {
		l = append(l, laid(nodes))
	}
	for _, x := range refused {
		l = append(l, codeOf(x.text))
	}
	return l
}

// TestP2NothingIsChanged: neither what is handed in, nor its spare room, also where an answer is written over.
func TestP2NothingIsChanged(t *testing.T) {
	for _, c := range mine() {
		for _, family := range []int{32, 128, 64} {
			b, asItWas := guarded(c)
			Code(family, b)
			l, _ := Tree(family, b)
			overwrite(l)
			if !asItWas() {
				t.Errorf("P2: %s is changed", short(c))
			}
		}
		if len(c)%4 != 0 || len(c) > api.MaxImage-16 {
			continue
		}
		b, asItWas := guarded(packed(32, 1, c))
		Image(b)
		if !asItWas() {
			t.Errorf("P2: %s is changed", short(b))
		}
	}
}

// TestP2ATreeIsTheCallersOwn: writing over it changes no later one; nor does writing over the code change it.
func TestP2ATreeIsTheCallersOwn(t *testing.T) {
	for _, l := range edges() {
		b := laid(l)
		tree := treeOf(t, 128, b)
		for i := range b {
			b[i]++
		}
		if !like(tree, l) {
			t.Errorf("P2: the tree of %s hangs on what was handed in", textOf(l))
		}
		overwrite(tree)
		hasTree(t, 128, laid(l), l)
	}
}

// TestP2NoTwoListsShare: to write over the runs of one node, and their spare room, changes no other's.
func TestP2NoTwoListsShare(t *testing.T) {
	for _, l := range append(edges(), doubling(64), chain(steps(128)...)) {
		tree := treeOf(t, 128, laid(l))
		for i := range tree {
			runs := tree[i].Runs[:cap(tree[i].Runs)]
			for k := range runs {
				runs[k].N = -1
			}
			if i+1 < len(tree) && !like(tree[i+1:], l[i+1:]) {
				t.Fatalf("P2: node %d of %s shares its runs", i, textOf(l))
			}
		}
	}
}

// TestP2NoListIsAnEmptyOne: nil and a list of none are the same.
func TestP2NoListIsAnEmptyOne(t *testing.T) {
	for _, b := range [][]byte{nil, {}, make([]byte, 0, 8)} {
		isRefused(t, 32, b, 0, api.ErrCut)
		isNoImage(t, b, api.ErrCut)
		if l, e := Tree(128, b); len(l) != 0 || e != api.ErrCut {
			t.Errorf("P2: %v, %v", l, e)
		}
	}
}

// TestP3AtOnce: calls that go on at the same time tell what they tell one behind the other.
func TestP3AtOnce(t *testing.T) {
	lists := samples(32)[:400]
	var codes [][]byte
	var depths []int
	for _, l := range lists {
		b := laid(l)
		depth, _, _ := Code(32, b)
		codes, depths = append(codes, b), append(depths, depth)
	}
	done := make(chan int)
	for range 4 {
		go func() {
			wrong := 0
			for i, b := range codes {
				depth, at, e := Code(32, b)
				l, f := Tree(32, b)
				if depth != depths[i] || at != 0 || e != api.OK || f != api.OK || !like(l, lists[i]) {
					wrong++
				}
			}
			done <- wrong
		}()
	}
	for range 4 {
		if wrong := <-done; wrong > 0 {
			t.Errorf("P3: %d answers are other ones", wrong)
		}
	}
}
