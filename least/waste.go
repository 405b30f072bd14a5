package least

import (
	"slices"

	"turnpike/api"
	"turnpike/prefix"
)

// wasted tells which of a right table's routes say nothing of their own: longer ones have all their addresses, or what lies around them leads to the same next hop.
func wasted(l []api.Route) []api.Route {
	hidden := hides(l)
	var waste, open []api.Route
	for _, r := range l {
		for len(open) > 0 && !prefix.Within(r.At, open[len(open)-1].At) {
			open = open[:len(open)-1]
		}
		alike := len(open) > 0 && open[len(open)-1].Hop == r.Hop
		if alike || hidden(r.At) {
			waste = append(waste, r)
		}
		open = append(open, r)
	}
	return waste
}

// hides answers what tells whether longer routes have all the addresses of a prefix.
func hides(l []api.Route) func(p api.Prefix) bool {
	kids := map[api.Prefix]int{} // how many of a prefix's two kids routes have wholly
	hidden := func(p api.Prefix) bool { return kids[p] == 2 }
	// Backward, for then those within a route have been met ahead of it.
	for _, r := range slices.Backward(l) {
		// Its parent knows already.
		if hidden(r.At) {
			continue
		}
		for p, ok := prefix.Parent(r.At); ok; p, ok = prefix.Parent(p) {
			kids[p]++
			if !hidden(p) {
				break
			}
		}
	}
	return hidden
}
