package share

import (
	"math"
	"slices"

	"turnpike/api"
)

// mostLaid is how many nodes are ever laid out: beyond that the document promises nothing, and no memory would hold them.
const mostLaid = math.MaxInt32

// wholeSize tells how many nodes there are where each run leads to one of its own; false, if these are more than so many. All is counted ahead of the first node that is laid, since there can be far more of them than anything could go through.
func wholeSize(l []api.Node, most int) (int, bool) {
	// By a node's number: how many nodes those below it and itself are.
	sizes := make([]int, len(l))
	for number, n := range slices.Backward(l) {
		size, ok := sizeOf(n, sizes, most)
		if !ok {
			// Some way leads to each node, so that this part of the whole is too great alone.
			return 0, false
		}
		sizes[number] = size
	}
	return sizes[0], true
}

// sizeOf is that of a node, by those of the nodes to which it leads.
func sizeOf(n api.Node, sizes []int, most int) (int, bool) {
	if most < 1 {
		return 0, false
	}
	size := 1
	for _, r := range n.Runs {
		if !r.Kid {
			continue
		}
		if sizes[r.N] > most-size {
			return 0, false
		}
		size += sizes[r.N]
	}
	return size, true
}

// layOut makes the list of so many nodes in which each run leads to one of its own. Numbers are asked for where a run comes, so that what it leads to is laid ahead of the next one.
func layOut(l []api.Node, size int) []api.Node {
	nodes := make([]api.Node, 0, size)
	var lay func(number int) int
	lay = func(number int) int {
		place := len(nodes)
		nodes = append(nodes, api.Node{})
		n := numbered(l[number], lay)
		nodes[place] = n
		return place
	}
	lay(0)
	return nodes
}
