package verify

import (
	"cmp"
	"slices"

	"turnpike/api"
	"turnpike/code"
)

// program is code that may be run: its blocks and their depth; or none, and an answer.
type program struct {
	blocks []block
	depth  int
	answer int
}

// way is how many blocks, and how many bits, those that lead somewhere take at most.
type way struct {
	blocks, bits int
}

// read tells the program that code is; else the word at which it is none, and why.
func read(family int, b []byte) (program, int, api.Errno) {
	if family != api.W4 && family != api.W6 {
		return program{}, 0, api.ErrFamily
	}
	if len(b) == 0 || len(b)%wordBytes != 0 {
		return program{}, 0, api.ErrCut
	}
	if i, size, e := code.Decode(b, 0); e == api.OK && i.Op == api.OReturn {
		return readAlone(i, size, b)
	}
	return readBlocks(family, b)
}

// readAlone reads code that begins with OReturn: there is nothing that leads behind it.
func readAlone(i api.Instr, size int, b []byte) (program, int, api.Errno) {
	if len(b) > size*wordBytes {
		return program{}, size, api.ErrUnused
	}
	return program{answer: i.N}, 0, api.OK
}

func readBlocks(family int, b []byte) (program, int, api.Errno) {
	r := reader{code: b}
	if e := r.through(); e != api.OK {
		return program{}, r.at, e
	}
	p := program{blocks: r.blocks}
	if at, e := p.link(); e != api.OK {
		return program{}, at, e
	}
	if at, e := p.allUsed(); e != api.OK {
		return program{}, at, e
	}
	if at, e := p.measure(family); e != api.OK {
		return program{}, at, e
	}
	return p, 0, api.OK
}

// link puts the numbers of blocks in where jumps lead; else it tells the first jump that leads to none.
func (p *program) link() (int, api.Errno) {
	for _, b := range p.blocks {
		for k, x := range b.entries {
			if !x.jumps {
				continue
			}
			to, ok := p.blockAt(x.n)
			if !ok {
				return b.placeOf(k), api.ErrJump
			}
			b.entries[k].n = to
		}
	}
	return 0, api.OK
}

// blockAt is the number of the block that begins at a word.
func (p *program) blockAt(word int) (int, bool) {
	return slices.BinarySearchFunc(p.blocks, word, func(b block, word int) int { return cmp.Compare(b.at, word) })
}

// allUsed asks that a jump leads to each block but the first one.
func (p *program) allUsed() (int, api.Errno) {
	used := make([]bool, len(p.blocks))
	used[0] = true
	for _, b := range p.blocks {
		for _, x := range b.entries {
			if x.jumps {
				used[x.n] = true
			}
		}
	}
	if k := slices.Index(used, false); k >= 0 {
		return p.blocks[k].at, api.ErrUnused
	}
	return 0, api.OK
}

// measure tells the depth, and asks that there are enough bits for all ways. Jumps lead behind their own block: where it comes to a block, all that lead to it have been met.
func (p *program) measure(family int) (int, api.Errno) {
	ahead := make([]way, len(p.blocks))
	for number, b := range p.blocks {
		here := way{ahead[number].blocks + 1, ahead[number].bits + b.bits}
		if here.bits > family {
			return b.at, api.ErrBits
		}
		p.depth = max(p.depth, here.blocks)
		for _, x := range b.entries {
			if x.jumps {
				ahead[x.n] = ahead[x.n].most(here)
			}
		}
	}
	return 0, api.OK
}

func (w way) most(other way) way {
	return way{max(w.blocks, other.blocks), max(w.bits, other.bits)}
}

// nodes are what the code was laid of.
func (p *program) nodes() []api.Node {
	if len(p.blocks) == 0 {
		return []api.Node{{Runs: []api.Run{{N: p.answer}}}}
	}
	l := make([]api.Node, 0, len(p.blocks))
	for _, b := range p.blocks {
		l = append(l, b.node())
	}
	return l
}
