package stride

import (
	"turnpike/trie"
)

// closed is the shape of all nodes that are not open.
const closed = 0

// kids are the shapes of a node's kids, the lesser number first: costs know no order. They say all that a node's costs hang on; one that is not open adds nothing to them.
type kids struct {
	low, high int32
}

// shapes are those of a tree's nodes, by numbers; kids' shapes have lesser ones. A tree of very many nodes has few shapes, as a rule: its long thin ends are alike.
type shapes struct {
	kids []kids
	of   []int32 // by the nodes' numbers
}

func shapesOf(tree *trie.Trie) shapes {
	s := shapes{kids: make([]kids, 1), of: make([]int32, tree.Len())}
	number := map[kids]int32{}
	// A node's kids stand behind it.
	for n := tree.Len() - 1; n >= 0; n-- {
		if tree.Height(n) == 0 {
			continue
		}
		k := s.below(tree, n)
		x, ok := number[k]
		if !ok {
			x = int32(len(s.kids))
			s.kids = append(s.kids, k)
			number[k] = x
		}
		s.of[n] = x
	}
	return s
}

// below tells the shapes of a node's kids.
func (s shapes) below(tree *trie.Trie, n int) kids {
	shape := func(bit int) int32 {
		kid := tree.Kid(n, bit)
		if kid < 0 {
			return closed
		}
		return s.of[kid]
	}
	a, b := shape(0), shape(1)
	return kids{low: min(a, b), high: max(a, b)}
}

// asks tells of each shape how often the shapes of which it is a kid's name it, and once more of the one that node 0 has.
func (s shapes) asks() []int32 {
	asks := make([]int32, len(s.kids))
	asks[s.of[0]]++
	for _, k := range s.kids[1:] {
		asks[k.low]++
		asks[k.high]++
	}
	return asks
}

// fewest tells of each shape the fewest nodes by which its costs are asked, where those of node 0 are asked by so many: on the longest way down to it each node may take one of them.
func (s shapes) fewest(nodes int) []int {
	few := make([]int, len(s.kids))
	for x := range few {
		few[x] = nodes
	}
	// Node 0 has the greatest height, so its shape is the last one; and each shape is done when its kids come.
	for x := len(few) - 1; x > closed; x-- {
		k, left := s.kids[x], max(1, few[x]-1)
		few[k.low] = min(few[k.low], left)
		few[k.high] = min(few[k.high], left)
	}
	return few
}
