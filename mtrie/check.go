package mtrie

import (
	"turnpike/api"
	"turnpike/word"
)

// mostBits is how many a node may take, in both families.
const mostBits = 128

func isBits(n int) bool {
	return 0 <= n && n <= mostBits
}

// checkNodes tells the error of the first node that is not right.
func checkNodes(l []api.Node) api.Errno {
	if len(l) == 0 {
		return api.ErrNone
	}
	for number := range l {
		if e := checkNode(l, number); e != api.OK {
			return e
		}
	}
	return api.OK
}

func checkNode(l []api.Node, number int) api.Errno {
	n := l[number]
	if !isBits(n.Bits) || n.Bits == 0 && len(l) > 1 {
		return api.ErrArg
	}
	if !inOrder(n) {
		return api.ErrOrder
	}
	for _, r := range n.Runs {
		if e := checkContent(contentOf(r), number, len(l)); e != api.OK {
			return e
		}
	}
	return api.OK
}

// inOrder tells whether a node's runs are right.
func inOrder(n api.Node) bool {
	if len(n.Runs) == 0 || n.Runs[0].From != (api.Word{}) {
		return false
	}
	for i := 1; i < len(n.Runs); i++ {
		a, b := n.Runs[i-1], n.Runs[i]
		if word.Cmp(a.From, b.From) >= 0 || sayTheSame(a, b) {
			return false
		}
	}
	last := n.Runs[len(n.Runs)-1].From
	return word.Shr(last, n.Bits) == (api.Word{})
}

// checkContent tells what is wrong with what stands in a slot of a node, by its number and how many nodes there are.
func checkContent(x content, number, nodes int) api.Errno {
	switch x := x.(type) {
	case answer:
		if x < 0 || x > api.MaxHop {
			return api.ErrHop
		}
	case lead:
		if int(x) <= number || int(x) >= nodes {
			return api.ErrJump
		}
	}
	return api.OK
}

// allUsed tells whether to each node but node 0 a run leads.
func allUsed(l []api.Node) bool {
	used := make([]bool, len(l))
	used[0] = true
	count := 1
	for _, n := range l {
		for kid := range kids(n) {
			if !used[kid] {
				used[kid] = true
				count++
			}
		}
	}
	return count == len(l)
}

// reach is how many bits the ways down to a node take at most, and how many nodes they meet at most, ahead of it.
type reach struct {
	bits, nodes int
}

// deepest tells how many nodes a way down meets at most. Kids stand behind a node: so all ways to it are known when it comes.
func deepest(family int, l []api.Node) (int, api.Errno) {
	depth := 0
	ahead := make([]reach, len(l))
	for number, n := range l {
		met := ahead[number]
		met.bits += n.Bits
		// The one node of no bits does not count.
		met.nodes += min(1, n.Bits)
		if met.bits > family {
			return 0, api.ErrBits
		}
		depth = max(depth, met.nodes)
		for kid := range kids(n) {
			ahead[kid].bits = max(ahead[kid].bits, met.bits)
			ahead[kid].nodes = max(ahead[kid].nodes, met.nodes)
		}
	}
	return depth, api.OK
}
