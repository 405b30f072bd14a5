package update

import (
	"sync"

	"turnpike/api"
	"turnpike/fib"
	"turnpike/image"
)

// state is a table, and what is made of it. Nothing is written into its lists once they are made, so that who has been told them may read them while others change the live table.
type state struct {
	api.Table
	image []byte
	code  []byte // the image's own: opening an image takes a sum over all of it, which is too much for each lookup
}

// stateOf makes a table's, by the depth and the limit of the live one.
func (l *Live) stateOf(t api.Table) (state, api.Errno) {
	b, e := fib.Make(t, l.depth, l.most)
	if e != api.OK {
		return state{}, e
	}
	return opened(t, b), api.OK
}

// opened is a table with the image that was made of it.
func opened(t api.Table, b []byte) state {
	_, code, _ := image.Open(b, 0)
	return state{Table: t, image: b, code: code}
}

// held is what those who change a live table and those who look up have in common.
type held struct {
	sync.Mutex
	state
	ring
}

// now tells the state there is.
func (h *held) now() state {
	h.Lock()
	defer h.Unlock()
	return h.state
}

// stepTo makes another state the one there is; stepBack tells whether there was one to go back to.
func (h *held) stepTo(s state) {
	h.push(past{back: between(s.Routes, h.Routes), image: h.image})
	h.state = s
}

func (h *held) stepBack() bool {
	p, ok := h.pop()
	if !ok {
		return false
	}
	t := api.Table{W: h.W, Routes: with(h.Routes, p.back)}
	h.state = opened(t, p.image)
	return true
}
