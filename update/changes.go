package update

import (
	"slices"

	"turnpike/api"
	"turnpike/prefix"
	"turnpike/table"
)

// draft is a table on its way to another one: itself as it was, and what the changes so far say of their prefixes.
type draft struct {
	api.Table
	said map[api.Prefix]int // next hops; 0: there is no route any more
}

// changed is a table behind changes.
func changed(t api.Table, l []api.Change) (api.Table, api.Errno) {
	d := draft{Table: t, said: map[api.Prefix]int{}}
	for _, c := range l {
		if e := d.take(c); e != api.OK {
			return api.Table{}, e
		}
	}
	return api.Table{W: t.W, Routes: with(t.Routes, d.changes())}, api.OK
}

// take makes one change more.
func (d draft) take(c api.Change) api.Errno {
	if c.Kind != api.CSet && c.Kind != api.CDrop {
		return api.ErrKind
	}
	if e := prefix.Check(d.W, c.Route.At); e != api.OK {
		return e
	}
	if c.Kind == api.CSet {
		return d.set(c.Route)
	}
	return d.drop(c.Route)
}

func (d draft) set(r api.Route) api.Errno {
	if r.Hop < 1 || r.Hop > api.MaxHop {
		return api.ErrHop
	}
	d.said[r.At] = r.Hop
	return api.OK
}

func (d draft) drop(r api.Route) api.Errno {
	if r.Hop != 0 {
		return api.ErrArg
	}
	if d.hop(r.At) == 0 {
		return api.ErrNone
	}
	d.said[r.At] = 0
	return api.OK
}

// hop tells the next hop to which a prefix leads by now; 0, if it has no route.
func (d draft) hop(p api.Prefix) int {
	if hop, ok := d.said[p]; ok {
		return hop
	}
	hop, _ := table.Find(d.Table, p)
	return hop
}

// changes tells what has been said, one for each prefix, in their order.
func (d draft) changes() []api.Change {
	var l []api.Change
	for p, hop := range d.said {
		l = append(l, changeTo(p, hop))
	}
	slices.SortFunc(l, func(a, b api.Change) int {
		return prefix.Cmp(a.Route.At, b.Route.At)
	})
	return l
}

// changeTo is the change by which a prefix leads to a next hop; 0: nowhere.
func changeTo(p api.Prefix, hop int) api.Change {
	kind := api.CSet
	if hop == 0 {
		kind = api.CDrop
	}
	return api.Change{Kind: kind, Route: api.Route{At: p, Hop: hop}}
}

// with is routes behind changes that are in the order of their prefixes, one for each. A prefix that is dropped may have no route.
func with(routes []api.Route, l []api.Change) []api.Route {
	all := make([]api.Route, 0, len(routes)+len(l))
	for _, c := range l {
		ahead, found := slices.BinarySearchFunc(routes, c.Route.At, func(r api.Route, p api.Prefix) int {
			return prefix.Cmp(r.At, p)
		})
		all = append(all, routes[:ahead]...)
		routes = routes[ahead:]
		if found {
			routes = routes[1:]
		}
		if c.Kind == api.CSet {
			all = append(all, c.Route)
		}
	}
	return append(all, routes...)
}

// between is the changes that make routes of others: of each prefix of which they say two things, what the latter ones say.
func between(a, b []api.Route) []api.Change {
	var l []api.Change
	for len(a) > 0 || len(b) > 0 {
		switch c := cmpFirst(a, b); {
		case c < 0:
			l = append(l, changeTo(a[0].At, 0))
			a = a[1:]
		case c > 0:
			l = append(l, changeTo(b[0].At, b[0].Hop))
			b = b[1:]
		default:
			if a[0].Hop != b[0].Hop {
				l = append(l, changeTo(b[0].At, b[0].Hop))
			}
			a, b = a[1:], b[1:]
		}
	}
	return l
}

// cmpFirst tells which one's first route comes first; one without routes comes last.
func cmpFirst(a, b []api.Route) int {
	switch {
	case len(a) == 0:
		return 1
	case len(b) == 0:
		return -1
	}
	return prefix.Cmp(a[0].At, b[0].At)
}
