package vm

import (
	"turnpike/api"
	"turnpike/code"
	"turnpike/wire"
	"turnpike/word"
)

// field is what the step ahead took of the address: how many bits, and the number that they are; no bits, if it was no OExtract. An OIndex may use a number only right behind the step that took it, so nothing older is held.
type field struct {
	bits, number int
}

// goOn does steps till the run ends, or so many are done.
func (m *Machine) goOn(most int) {
	var (
		i    api.Instr
		size int
		e    api.Errno
	)
fetch:
	if m.ended || most <= 0 {
		return
	}
	if i, size, e = code.Decode(m.code, m.at); e != api.OK {
		m.end(e)
		return
	}
	if e = m.do(i, size); e != api.OK {
		m.end(e)
		return
	}
	m.told.Steps++
	most--
	goto fetch
}

// do does an instruction of so many words; beside an error it has changed nothing.
func (m *Machine) do(i api.Instr, size int) api.Errno {
	switch i.Op {
	case api.OExtract:
		return m.extract(i.N)
	case api.OIndex:
		return m.index(i, size)
	case api.OJump:
		m.moveTo(m.at+i.N, field{})
	case api.OReturn:
		m.ended = true
		m.told.Hop = i.N
	}
	return api.OK
}

func (m *Machine) extract(n int) api.Errno {
	if n > m.family-m.told.Bits {
		return api.ErrBits
	}
	v, e := word.Field(m.w, m.told.Bits, n)
	if e != api.OK {
		return e
	}
	m.told.Extracts++
	m.told.Bits += n
	m.moveTo(m.at+1, field{bits: n, number: int(v.Lo)})
	return api.OK
}

func (m *Machine) index(i api.Instr, size int) api.Errno {
	if m.held.bits != i.N {
		return api.ErrMap
	}
	r, e := wire.Rank(i.Map, m.held.number)
	if e != api.OK {
		return e
	}
	m.told.Indexes++
	m.moveTo(m.at+size+r-1, field{})
	return api.OK
}

// moveTo goes on at a word, holding what the step took.
func (m *Machine) moveTo(at int, held field) {
	m.at = at
	m.held = held
}

// end ends the run with an error, where it stands.
func (m *Machine) end(e api.Errno) {
	m.ended = true
	m.told.Err = e
}
