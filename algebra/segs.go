package algebra

import (
	"turnpike/addr"
	"turnpike/api"
	"turnpike/prefix"
	"turnpike/ranges"
	"turnpike/word"
)

// sweeper goes through all addresses of a family, from the first one on.
type sweeper struct {
	family int
	open   []api.Route // those that have the next address, each within the one ahead
	next   api.Word    // the first address of which nothing is told
	ended  bool        // there is none
	told   []api.Seg
}

// sweep tells the segments of a right table.
func sweep(t api.Table) []api.Seg {
	// What no route has goes to next hop 0, as if a route led all addresses there.
	s := sweeper{family: t.W, open: []api.Route{{}}}
	for _, r := range t.Routes {
		for !prefix.Within(r.At, s.inner().At) {
			s.leave()
		}
		s.enter(r)
	}
	for len(s.open) > 0 {
		s.leave()
	}
	return s.told
}

// inner is the longest one of those that are open.
func (s *sweeper) inner() api.Route {
	return s.open[len(s.open)-1]
}

// enter tells what lies ahead of a route, and opens it.
func (s *sweeper) enter(r api.Route) {
	if ahead, ok := addr.Prev(s.family, prefix.First(r.At)); ok {
		s.tell(ahead)
	}
	s.open = append(s.open, r)
}

// leave tells the rest of the inner route, and shuts it.
func (s *sweeper) leave() {
	s.tell(prefix.Last(s.family, s.inner().At))
	s.open = s.open[:len(s.open)-1]
}

// tell leads the addresses up to one, as far as nothing is told of them, where the inner route does.
func (s *sweeper) tell(last api.Word) {
	if s.ended || word.Cmp(last, s.next) < 0 {
		return
	}
	s.told = behind(s.told, api.Seg{First: s.next, Last: last, Hop: s.inner().Hop})
	next, ok := addr.Next(s.family, last)
	s.next, s.ended = next, !ok
}

// behind lays a segment behind those that end right ahead of it: no two beside one another have the same Hop.
func behind(l []api.Seg, s api.Seg) []api.Seg {
	if end := len(l) - 1; end >= 0 && l[end].Hop == s.Hop {
		l[end].Last = s.Last
		return l
	}
	return append(l, s)
}

// checkSegs tells the error of segments.
func checkSegs(family int, l []api.Seg) api.Errno {
	if _, e := addr.Last(family); e != api.OK {
		return e
	}
	if len(l) == 0 {
		return api.ErrNone
	}
	next, more := api.Word{}, true
	for i, s := range l {
		if e := checkSeg(family, s); e != api.OK {
			return e
		}
		if !more || s.First != next || i > 0 && s.Hop == l[i-1].Hop {
			return api.ErrOrder
		}
		next, more = addr.Next(family, s.Last)
	}
	if more {
		return api.ErrOrder
	}
	return api.OK
}

// checkSeg tells the error that a segment has wherever it stands.
func checkSeg(family int, s api.Seg) api.Errno {
	if addr.Right(family, s.First) != api.OK || addr.Right(family, s.Last) != api.OK {
		return api.ErrWide
	}
	if s.Hop < 0 || s.Hop > api.MaxHop {
		return api.ErrHop
	}
	if word.Cmp(s.Last, s.First) < 0 {
		return api.ErrOrder
	}
	return api.OK
}

// covered makes the table of right segments.
func covered(family int, l []api.Seg) (api.Table, api.Errno) {
	t := api.Table{W: family}
	for _, s := range l {
		if s.Hop == 0 {
			continue
		}
		// A right segment is a range: there is no error.
		cover, _ := ranges.Cover(family, s.First, s.Last)
		if len(t.Routes)+len(cover) > api.MaxEntries {
			return api.Table{}, api.ErrLimit
		}
		for _, p := range cover {
			t.Routes = append(t.Routes, api.Route{At: p, Hop: s.Hop})
		}
	}
	return t, api.OK
}
