package stride

import (
	"turnpike/api"
	"turnpike/trie"
)

// follow goes over the nodes of a plan, in order. Of each it asks how many bits that takes (with its number, and with how many nodes of the plan a path has met when it has met this one), and goes on as that says; where the answer is 0, it ends at once, and tells false.
func follow(tree *trie.Trie, takes func(n, met int) int) bool {
	var from func(n, met int) bool
	from = func(n, met int) bool {
		if tree.Height(n) == 0 {
			return true
		}
		bits := takes(n, met)
		if bits == 0 {
			return false
		}
		for m := range tree.Down(n, bits) {
			if !from(m, met+1) {
				return false
			}
		}
		return true
	}
	return from(0, 1)
}

// lay makes the plan in which each node takes the bits that are told of it.
func lay(tree *trie.Trie, takes func(n, met int) int) []api.Stride {
	var plan []api.Stride
	follow(tree, func(n, met int) int {
		at, _ := tree.At(n)
		bits := takes(n, met)
		plan = append(plan, api.Stride{At: at, Bits: bits})
		return bits
	})
	return plan
}

// read tells the cost and the depth of a plan; false, if the list is none.
func read(tree *trie.Trie, l []api.Stride) (spent api.Cost, depth int, ok bool) {
	next := 0
	ok = follow(tree, func(n, met int) int {
		if next == len(l) || !fits(tree, n, l[next]) {
			return 0
		}
		bits := l[next].Bits
		next++
		spent = sum(spent, power(bits))
		depth = max(depth, met)
		return bits
	})
	return spent, depth, ok && next == len(l)
}

// fits tells whether a stride may be that of an open node.
func fits(tree *trie.Trie, n int, x api.Stride) bool {
	at, _ := tree.At(n)
	return x.At == at && 1 <= x.Bits && x.Bits <= tree.Height(n)
}
