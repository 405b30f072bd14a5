package share

import (
	"slices"

	"turnpike/api"
)

// inOrder tells nodes in the order of the list that they make.
func inOrder(j joined) []api.Node {
	order := walk(j.nodes, len(j.nodes)-1)
	places := make([]int, len(order))
	for place, number := range order {
		places[number] = place
	}
	l := make([]api.Node, len(order))
	for place, number := range order {
		l[place] = numbered(j.nodes[number], func(kid int) int { return places[kid] })
	}
	return l
}

// walk tells the numbers of the nodes below one, and its own, in the order of a right list. It goes down no further than addresses have bits.
func walk(nodes []api.Node, first int) []int {
	met := make([]bool, len(nodes))
	done := make([]int, 0, len(nodes))
	var down func(number int)
	down = func(number int) {
		met[number] = true
		for _, r := range slices.Backward(nodes[number].Runs) {
			if r.Kid && !met[r.N] {
				down(r.N)
			}
		}
		done = append(done, number)
	}
	down(first)
	slices.Reverse(done)
	return done
}
