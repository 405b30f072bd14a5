package mtrie

import (
	"turnpike/api"
	"turnpike/trie"
	"turnpike/word"
)

// builder lays the nodes of a plan.
type builder struct {
	tree  *trie.Trie
	plan  []api.Stride
	nodes []api.Node
}

// part is the slots of a node whose first bits are those of one of the tree's nodes: that they are gone through together is what lets a node have more slots than could be counted.
type part struct {
	at   int      // the tree's node, or a number that is no node's: no route stands there, and nothing lies below
	from api.Word // the first slot
	left int      // how many bits of the slots are free
	hop  int      // that of the longest route on the way there; 0: there is none
}

// build lays a table's nodes by its tree and a plan of it.
func build(tree *trie.Trie, plan []api.Stride) []api.Node {
	if len(plan) == 0 {
		// Node 0 is not open: of no bits it has one slot, which answers.
		plan = []api.Stride{{}}
	}
	b := builder{tree: tree, plan: plan, nodes: make([]api.Node, 0, len(plan))}
	b.lay(0, 0)
	return b.nodes
}

// lay makes the node of the next stride, which stands at a node of the tree, and those below it; hop is that of the longest route on the way there. What a run leads to is laid ahead of the next run, so that all nodes come in the order of the plan.
func (b *builder) lay(at, hop int) lead {
	number := len(b.nodes)
	bits := b.plan[number].Bits
	b.nodes = append(b.nodes, api.Node{Bits: bits})
	runs := b.fill(nil, part{at: at, left: bits, hop: hop})
	b.nodes[number].Runs = runs
	return lead(number)
}

// fill puts what a part's slots hold behind the runs of those ahead of them.
func (b *builder) fill(runs []api.Run, p part) []api.Run {
	if own := b.tree.Hop(p.at); own > 0 {
		p.hop = own
	}
	switch {
	case b.tree.Height(p.at) == 0:
		return put(runs, p.from, answer(p.hop))
	case p.left == 0:
		return put(runs, p.from, b.lay(p.at, p.hop))
	}
	for bit := range 2 {
		runs = b.fill(runs, p.half(b.tree.Kid(p.at, bit), bit))
	}
	return runs
}

// half is the slots of a part that go on with a bit, where the tree's node has that kid.
func (p part) half(kid, bit int) part {
	p.at = kid
	p.left--
	p.from = word.Or(p.from, word.Shl(api.Word{Lo: uint64(bit)}, p.left))
	return p
}

// put lets slots from one on hold something.
func put(runs []api.Run, from api.Word, x content) []api.Run {
	r := x.run(from)
	if end := len(runs) - 1; end >= 0 && sayTheSame(runs[end], r) {
		return runs
	}
	return append(runs, r)
}
