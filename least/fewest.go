package least

import (
	"slices"

	"turnpike/api"
)

// fewest tells the routes of a least table that leads as a right one does.
func fewest(t api.Table) []api.Route {
	top := partOf(api.Prefix{}, 0, t.Routes)
	takes := reckon(t.W, top)
	var routes []api.Route
	var lay func(p part, inherits int)
	lay = func(p part, inherits int) {
		hop := takes(p, inherits)
		if hop != inherits {
			routes = append(routes, api.Route{At: p.at, Hop: hop})
		}
		for _, q := range p.parts(t.W) {
			lay(q, hop)
		}
	}
	lay(top, 0)
	return routes
}

// reckon answers what tells the next hop that a part hands on to those it is made of, by the one that it inherits. The two are unlike just where the part takes a route.
//
// Why these are the fewest: how many routes a part needs hangs on what it inherits by one at most; some next hops spare it one. A next hop that spares both halves one leads the whole: inherited it spares one too, else it takes a route and spares two. If there is no such next hop, a route of the whole would spare no more than itself: the halves are left to themselves, and what spares either of them a route spares the whole one, too. Where an address goes nowhere no route can lead the whole, and nothing is inherited.
func reckon(family int, top part) func(p part, inherits int) int {
	whole := map[api.Prefix][]int{} // of the parts with longer routes that are led as a whole: what spares them a route
	var spares func(p part) []int
	spares = func(p part) []int {
		may := p.own()
		switch l := p.parts(family); len(l) {
		case 0:
			return may
		case 1:
			spares(l[0])
		case 2:
			low, high := spares(l[0]), spares(l[1])
			if may = common(low, high); len(may) == 0 {
				return apart(low, high)
			}
		}
		if len(may) > 0 {
			whole[p.at] = may
		}
		return may
	}
	spares(top)
	return func(p part, inherits int) int {
		may := p.own()
		if len(p.longer) > 0 {
			may = whole[p.at]
		}
		if len(may) == 0 || slices.Contains(may, inherits) {
			return inherits
		}
		return may[0]
	}
}

// apart tells what spares a part a route whose halves are left to themselves: nothing, if a half has an address that goes nowhere.
func apart(low, high []int) []int {
	if len(low) == 0 || len(high) == 0 {
		return nil
	}
	return together(low, high)
}

// common tells what stands in both of two rising lists.
func common(a, b []int) []int {
	var l []int
	for len(a) > 0 && len(b) > 0 {
		switch {
		case a[0] < b[0]:
			a = a[1:]
		case a[0] > b[0]:
			b = b[1:]
		default:
			l = append(l, a[0])
			a, b = a[1:], b[1:]
		}
	}
	return l
}

// together tells what stands in one of two rising lists that have nothing in common, rising.
func together(a, b []int) []int {
	l := make([]int, 0, len(a)+len(b))
	for len(a) > 0 && len(b) > 0 {
		if a[0] > b[0] {
			a, b = b, a
		}
		l = append(l, a[0])
		a = a[1:]
	}
	return append(append(l, a...), b...)
}
