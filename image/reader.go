package image

import (
	"turnpike/api"
	"turnpike/wire"
)

// reader is a row that begins with an image, as far as all but its sum tells; the head that it has read is embedded, so that the reader is asked what a head is asked.
type reader struct {
	head
	row []byte
}

// readerOf tells the first thing that is wrong at a row's begin, the sum left out.
func readerOf(row []byte) (reader, api.Errno) {
	if len(row) < headBytes {
		return reader{}, api.ErrCut
	}
	if string(row[:len(magic)]) != magic {
		return reader{}, api.ErrMagic
	}
	r := reader{headOf(row), row}
	if e := r.check(); e != api.OK {
		return reader{}, e
	}
	if r.tooLong() {
		return reader{}, api.ErrSize
	}
	if r.size() > len(row) {
		return reader{}, api.ErrCut
	}
	return r, api.OK
}

// headOf reads the numbers of a head, which all stand in the row.
func headOf(row []byte) head {
	steps, _ := wire.Get16(row, 6)
	words, _ := wire.Get32(row, 8)
	return head{api.Header{W: int(row[4]), Depth: int(row[5]), Steps: int(steps), Words: int(words)}}
}

func (r reader) code() []byte {
	return r.row[headBytes:r.size()]
}

// sumIsOf tells whether the sum that was read is the image's, by that of its code.
func (r reader) sumIsOf(code uint32) bool {
	said, _ := wire.Get32(r.row, sumAt)
	return said == joined(wire.Sum(r.row[:sumAt]), code, r.size()-headBytes)
}

// joined is the sum of two rows, the second one of so many bytes, which are never fewer than none.
func joined(a, b uint32, n int) uint32 {
	sum, _ := wire.Join(a, b, n)
	return sum
}
