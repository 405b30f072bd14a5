package table

import (
	"iter"
	"slices"

	"turnpike/api"
	"turnpike/prefix"
)

// Find tells the next hop of a prefix itself; Match the route of the longest prefix that has an address; Lookup its next hop, 0: none.
func Find(t api.Table, p api.Prefix) (int, bool) {
	i, ok := place(t.Routes, p)
	if !ok {
		return 0, false
	}
	return t.Routes[i].Hop, true
}

// place tells how many routes are ahead of a prefix, and whether it is the next one's.
func place(l []api.Route, p api.Prefix) (int, bool) {
	return slices.BinarySearchFunc(l, p, func(r api.Route, p api.Prefix) int {
		return prefix.Cmp(r.At, p)
	})
}

func Match(t api.Table, w api.Word) (api.Route, bool) {
	for r := range upwards(t.Routes, api.Prefix{Addr: w, Len: t.W}) {
		return r, true
	}
	return api.Route{}, false
}

func Lookup(t api.Table, w api.Word) int {
	r, _ := Match(t, w)
	return r.Hop
}

// Within goes over the routes whose prefixes lie within one; Over over those within which it lies, the longest first.
func Within(t api.Table, p api.Prefix) iter.Seq[api.Route] {
	from, _ := place(t.Routes, p)
	// What lies within a prefix stands right behind it, all of it together.
	l := t.Routes[from:]
	size, _ := slices.BinarySearchFunc(l, p, func(r api.Route, p api.Prefix) int {
		if prefix.Within(r.At, p) {
			return -1
		}
		return 1
	})
	return each(slices.Clone(l[:size]))
}

func Over(t api.Table, p api.Prefix) iter.Seq[api.Route] {
	return each(slices.Collect(upwards(t.Routes, p)))
}

// each goes over a list that nobody else has: the table may have become another one by the time it is gone over.
func each(own []api.Route) iter.Seq[api.Route] {
	return func(yield func(api.Route) bool) {
		for _, r := range own {
			if !yield(r) {
				return
			}
		}
	}
}

// upwards goes over the routes within whose prefixes p lies, the longest first. It reads the list while it goes on, so that who has enough of it has no work with the rest.
func upwards(l []api.Route, p api.Prefix) iter.Seq[api.Route] {
	return func(yield func(api.Route) bool) {
		near := p
		rest := upTo(l, near)
		for len(rest) > 0 {
			end := len(rest) - 1
			r := rest[end]
			if prefix.Within(near, r.At) && !yield(r) {
				return
			}
			// Each other one that has p stands ahead of r, and so has r too: both lie within it, and what they have alike does.
			near = prefix.Meet(near, r.At)
			rest = upTo(rest[:end], near)
		}
	}
}

// upTo tells the routes that are not behind a prefix.
func upTo(l []api.Route, p api.Prefix) []api.Route {
	n, ok := place(l, p)
	if ok {
		n++
	}
	return l[:n]
}
