package emit

import (
	"turnpike/api"
	"turnpike/code"
)

// laid is code as far as it is laid, and the places at which nodes begin.
type laid struct {
	code   []byte
	places []int
}

// lay lays the nodes of a right list down.
func lay(l []api.Node, x layout) []byte {
	c := laid{code: make([]byte, 0, x.words*wordBytes), places: x.places}
	for _, number := range x.order {
		c.node(l[number])
	}
	return c.code
}

func (c *laid) node(n api.Node) {
	if n.Bits > 0 {
		c.put(api.Instr{Op: api.OExtract, N: n.Bits})
		c.put(api.Instr{Op: api.OIndex, N: n.Bits, Map: mapOf(n)})
	}
	for _, r := range n.Runs {
		instr := c.laidAs(r)
		c.put(instr(r.N))
	}
}

// laidAs is what a run is laid as, by its N.
func (c *laid) laidAs(r api.Run) func(n int) api.Instr {
	if r.Kid {
		return c.jump
	}
	return c.answer
}

func (c *laid) answer(hop int) api.Instr {
	return api.Instr{Op: api.OReturn, N: hop}
}

// jump is told from the place at which it is going to stand.
func (c *laid) jump(number int) api.Instr {
	here := len(c.code) / wordBytes
	return api.Instr{Op: api.OJump, N: c.places[number] - here}
}

// put lays an instruction behind the others. It is encoded by itself: behind all of them each one would copy them.
func (c *laid) put(i api.Instr) {
	// What a right list is laid as is right, so that there is no error.
	b, _ := code.Encode(nil, i)
	c.code = append(c.code, b...)
}

// mapOf is set at the slots at which a run begins.
func mapOf(n api.Node) []uint32 {
	m := make([]uint32, mapWords(n.Bits))
	for _, r := range n.Runs {
		m[r.From.Lo/wordBits] |= 1 << (wordBits - 1 - r.From.Lo%wordBits)
	}
	return m
}
