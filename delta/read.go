package delta

import (
	"bytes"

	"turnpike/api"
	"turnpike/wire"
)

// Patches as bytes begin with these four, and have a head and a last sum at least.
const (
	magic      = "TPD1"
	leastBytes = 20
	sumBytes   = 4
)

// reader goes through patches as bytes, from the left. Where they are wrong it panics with the error, which read recovers.
type reader struct {
	row     []byte // for which the patches should be made
	left    []byte // what is not read yet
	patches []api.Patch
}

// read tells the patches for a row, or why there are none: the steps are in the order of their errors.
func read(row, b []byte) (l []api.Patch, e api.Errno) {
	defer func() {
		if fault, ok := recover().(api.Errno); ok {
			l, e = nil, fault
		}
	}()
	r := &reader{row: row, left: b}
	for _, step := range []func(){r.size, r.magic, r.sum, r.owner, r.list, r.end, r.fit} {
		step()
	}
	return r.patches, api.OK
}

// ask ends the reading with an error, but where all is as it should be.
func ask(right bool, e api.Errno) {
	if !right {
		panic(e)
	}
}

func (r *reader) size() {
	ask(len(r.left) >= leastBytes, api.ErrCut)
}

func (r *reader) magic() {
	ask(string(r.left[:len(magic)]) == magic, api.ErrMagic)
}

// sum asks the last bytes for the sum of all ahead of them, and leaves of these what stands behind the first four.
func (r *reader) sum() {
	end := len(r.left) - sumBytes
	last := reader{left: r.left[end:]}
	ask(last.number() == wire.Sum(r.left[:end]), api.ErrSum)
	r.left = r.left[len(magic):end]
}

// owner asks whether the patches are made for the row.
func (r *reader) owner() {
	ask(uint64(r.number()) == uint64(len(r.row)), api.ErrPatch)
	ask(r.number() == wire.Sum(r.row), api.ErrPatch)
}

func (r *reader) list() {
	r.patches = times(r.number(), r.patch)
}

func (r *reader) end() {
	ask(len(r.left) == 0, api.ErrCut)
}

func (r *reader) fit() {
	ask(fit(len(r.row), r.patches), api.ErrPatch)
}

// times reads so many of a kind. No room is made ahead: far fewer may stand there than are said.
func times[T any](count uint32, one func() T) []T {
	var l []T
	for range count {
		l = append(l, one())
	}
	return l
}

func (r *reader) patch() api.Patch {
	keep, drop, size := r.number(), r.number(), r.number()
	return api.Patch{Keep: int(keep), Drop: int(drop), Data: bytes.Clone(r.next(size))}
}

// number reads one of four bytes.
func (r *reader) number() uint32 {
	n, _ := wire.Get32(r.next(4), 0)
	return n
}

// next reads so many bytes. They are asked for as a number without a sign, which no int is too small for.
func (r *reader) next(size uint32) []byte {
	ask(uint64(size) <= uint64(len(r.left)), api.ErrCut)
	part := r.left[:size]
	r.left = r.left[size:]
	return part
}
