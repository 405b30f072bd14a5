package update

import "turnpike/api"

// past is a state that was: the changes that lead back to its table from the one behind it, and its image. (The tables themselves would be too much to keep: of MaxEntries routes, MaxLog times.)
type past struct {
	back  []api.Change
	image []byte
}

// ring keeps the last states that were, at most MaxLog.
type ring struct {
	kept  [api.MaxLog]past
	next  int // the place of the next one
	count int
}

// push keeps one more; where there is no room left, it takes the place of the eldest.
func (r *ring) push(p past) {
	r.kept[r.next] = p
	r.next = (r.next + 1) % api.MaxLog
	r.count = min(r.count+1, api.MaxLog)
}

// pop takes the last one out; false, if there is none.
func (r *ring) pop() (past, bool) {
	if r.count == 0 {
		return past{}, false
	}
	r.next = (r.next + api.MaxLog - 1) % api.MaxLog
	r.count--
	p := r.kept[r.next]
	// What can't be asked for any more is not kept.
	r.kept[r.next] = past{}
	return p, true
}
