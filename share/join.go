package share

import (
	"slices"

	"turnpike/api"
)

// joined is the nodes of a right list, of those that are equal one alone. Each stands behind those to which it leads, so that the last one is that of node 0.
type joined struct {
	nodes []api.Node        // with the numbers of these nodes put in
	of    []int             // by the number of a node of the list: that of the one which stands for it
	like  map[outline][]int // the numbers of the nodes, by what is cheap to tell of them
}

// join finds the equal nodes of a right list. What a node leads to stands behind it: so it begins at the end, and nodes are equal where the same numbers are put in.
func join(l []api.Node) joined {
	j := joined{of: make([]int, len(l)), like: map[outline][]int{}}
	for number, n := range slices.Backward(l) {
		j.of[number] = j.add(n)
	}
	return j
}

// add tells the number of the node that stands for one of the list; that is itself, if none is equal to it.
func (j *joined) add(n api.Node) int {
	n = numbered(n, func(kid int) int { return j.of[kid] })
	at := outlineOf(n)
	for _, number := range j.like[at] {
		if same(j.nodes[number], n) {
			return number
		}
	}
	number := len(j.nodes)
	j.nodes = append(j.nodes, n)
	j.like[at] = append(j.like[at], number)
	return number
}

// same tells whether two nodes say the same of each slot. Their runs are as few as can be, so that these are the same then.
func same(a, b api.Node) bool {
	return a.Bits == b.Bits && slices.Equal(a.Runs, b.Runs)
}

// numbered is a node in which other numbers stand for the nodes to which it leads; they are asked for from the first run to the last. Neighbouring runs that lead to one node then are one run.
func numbered(n api.Node, number func(kid int) int) api.Node {
	runs := make([]api.Run, 0, len(n.Runs))
	for _, r := range n.Runs {
		if r.Kid {
			r.N = number(r.N)
		}
		if end := len(runs) - 1; end < 0 || !sayTheSame(runs[end], r) {
			runs = append(runs, r)
		}
	}
	return api.Node{Bits: n.Bits, Runs: runs}
}

// sayTheSame tells whether two runs' slots hold the same.
func sayTheSame(a, b api.Run) bool {
	return a.Kid == b.Kid && a.N == b.N
}
