package least

import (
	"slices"

	"turnpike/api"
	"turnpike/prefix"
)

// part is what a table says of a prefix's addresses: the routes within it that are longer, and the next hop of what none of these has.
type part struct {
	at     api.Prefix
	hop    int
	longer []api.Route
}

// partOf makes a part of all the routes within a prefix, its own among them, and of the next hop that is inherited where it has none.
func partOf(at api.Prefix, hop int, within []api.Route) part {
	if len(within) > 0 && within[0].At == at {
		return part{at: at, hop: within[0].Hop, longer: within[1:]}
	}
	return part{at: at, hop: hop, longer: within}
}

// own is the list of its next hop, if there is one.
func (p part) own() []int {
	if p.hop == 0 {
		return nil
	}
	return []int{p.hop}
}

// parts are those of which it is made as far as there are longer routes: none, one that all of these lie in, or both halves.
func (p part) parts(family int) []part {
	if len(p.longer) == 0 {
		return nil
	}
	first, last := p.longer[0].At, p.longer[len(p.longer)-1].At
	// Where all of them lie two bits on or more, what is passed on the way goes to the part's own next hop: that leads the whole, whatever stands at the end.
	if at := prefix.Meet(first, last); at.Len > p.at.Len+1 {
		return []part{partOf(at, p.hop, p.longer)}
	}
	low, high, _ := prefix.Kids(family, p.at)
	cut, _ := slices.BinarySearchFunc(p.longer, high, func(r api.Route, at api.Prefix) int {
		return prefix.Cmp(r.At, at)
	})
	return []part{partOf(low, p.hop, p.longer[:cut]), partOf(high, p.hop, p.longer[cut:])}
}
