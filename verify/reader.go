package verify

import (
	"turnpike/api"
	"turnpike/code"
	"turnpike/wire"
)

// The parts of a block.
const (
	partFirst = iota
	partMap
	partEntry
	parts
)

// ops is one more than the greatest operation.
const ops = api.OReturn + 1

// reader goes through code that is not one OReturn. It stands at the word that it reads next, or at which it was refused.
type reader struct {
	code   []byte
	at     int
	blocks []block
	left   int // how many entries of the last block are still to come
}

// rule takes an instruction where it stands, or tells why it may not be as it is.
type rule func(r *reader, i api.Instr) api.Errno

// mayStand tells which operations may stand in which part of a block, and what is asked of them there.
func mayStand() [parts][ops]rule {
	return [parts][ops]rule{
		partFirst: {api.OExtract: (*reader).extract},
		partMap:   {api.OIndex: (*reader).index},
		partEntry: {api.OJump: (*reader).jump, api.OReturn: (*reader).answer},
	}
}

// through goes through the code, block by block, up to its end.
func (r *reader) through() api.Errno {
	var e api.Errno
	may := mayStand()
block:
	if e = r.take(may[partFirst]); e != api.OK {
		return e
	}
	if e = r.take(may[partMap]); e != api.OK {
		return e
	}
entry:
	if e = r.take(may[partEntry]); e != api.OK {
		return e
	}
	if r.left > 0 {
		goto entry
	}
	if r.at < len(r.code)/wordBytes {
		goto block
	}
	return api.OK
}

// take reads the next instruction by the rules of its place.
func (r *reader) take(rules [ops]rule) api.Errno {
	i, size, e := code.Decode(r.code, r.at)
	if e != api.OK {
		return e
	}
	ask := rules[i.Op]
	if ask == nil {
		return api.ErrOp
	}
	if e := ask(r, i); e != api.OK {
		return e
	}
	r.at += size
	return api.OK
}

func (r *reader) extract(i api.Instr) api.Errno {
	r.blocks = append(r.blocks, block{at: r.at, bits: i.N})
	return api.OK
}

func (r *reader) index(i api.Instr) api.Errno {
	b := r.last()
	if i.N != b.bits {
		return api.ErrMap
	}
	b.slots = i.Map
	r.left = wire.Ones(i.Map)
	// A map may have far more places set than there are words behind it.
	b.entries = make([]entry, 0, min(r.left, len(r.code)/wordBytes-r.at))
	return api.OK
}

func (r *reader) jump(i api.Instr) api.Errno {
	return r.entry(entry{jumps: true, n: r.at + i.N})
}

func (r *reader) answer(i api.Instr) api.Errno {
	return r.entry(entry{n: i.N})
}

// entry takes the next one of the last block.
func (r *reader) entry(x entry) api.Errno {
	b := r.last()
	if k := len(b.entries); k > 0 && b.entries[k-1] == x {
		return api.ErrMap
	}
	b.entries = append(b.entries, x)
	r.left--
	return api.OK
}

// last is the block that is being read.
func (r *reader) last() *block {
	return &r.blocks[len(r.blocks)-1]
}
