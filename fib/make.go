package fib

import (
	"slices"

	"turnpike/api"
	"turnpike/emit"
	"turnpike/image"
	"turnpike/mtrie"
	"turnpike/share"
	"turnpike/stride"
)

const (
	headBytes = 16 // those of an image that stand ahead of its code
	wordBytes = 4
)

// nodesOf tells the nodes of which the image of a table by a depth is laid.
func nodesOf(t api.Table, depth int) ([]api.Node, api.Errno) {
	plan, e := stride.Best(t, depth)
	if e != api.OK {
		return nil, e
	}
	// Nodes that no image holds are not worth being built.
	if slices.ContainsFunc(plan, tooWide) {
		return nil, api.ErrSize
	}
	nodes, e := mtrie.Build(t, plan)
	if e != api.OK {
		return nil, e
	}
	return share.Share(t.W, nodes)
}

func tooWide(s api.Stride) bool {
	return s.Bits > api.MaxBits
}

// imageOf lays nodes down as an image of so many bytes at most.
func imageOf(family int, nodes []api.Node, most int) ([]byte, api.Errno) {
	depth, e := mtrie.Check(family, nodes)
	if e != api.OK {
		return nil, e
	}
	code, e := emit.Code(family, nodes, roomIn(most))
	if e != api.OK {
		return nil, e
	}
	return image.Pack(api.Header{W: family, Depth: depth, Steps: stepsBy(depth), Words: len(code) / wordBytes}, code)
}

// roomIn is how many bytes of code an image of so many bytes has. The bound comes ahead of taking the head away: it may be the least number there is.
func roomIn(most int) int {
	return max(headBytes, most) - headBytes
}

// stepsBy is how many steps a lookup takes at most: one, where nothing is asked of the address.
func stepsBy(depth int) int {
	return max(1, 3*depth)
}
