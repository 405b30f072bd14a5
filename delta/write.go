package delta

import (
	"math"

	"turnpike/api"
	"turnpike/wire"
)

// mayBeWritten tells why patches of a row of so many bytes can't be laid down.
func mayBeWritten(size int, l []api.Patch) api.Errno {
	if !fit(size, l) {
		return api.ErrPatch
	}
	if isWide(size, len(l)) {
		return api.ErrWide
	}
	for _, p := range l {
		if isWide(p.Keep, p.Drop, len(p.Data)) {
			return api.ErrWide
		}
	}
	return api.OK
}

// isWide tells whether one of some numbers, none of them below 0, is too great for four bytes.
func isWide(numbers ...int) bool {
	for _, n := range numbers {
		if uint64(n) > math.MaxUint32 {
			return true
		}
	}
	return false
}

// laid is a row with numbers behind it; wire.Put32 would copy the row for each of them.
func laid(row []byte, numbers ...uint32) []byte {
	for _, n := range numbers {
		row = append(row, wire.Put32(nil, n)...)
	}
	return row
}
