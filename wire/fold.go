package wire

import "turnpike/api"

// Fold makes a row's runs: a bitmap of where they begin, and one of each; Unfold the row again.
func Fold[T comparable](l []T) ([]uint32, []T) {
	m := make([]uint32, wordsOf(len(l)))
	var firsts []T
	for i, x := range l {
		if i == 0 || !same(x, l[i-1]) {
			set(m, i)
			firsts = append(firsts, x)
		}
	}
	return m, firsts
}

func Unfold[T comparable](m []uint32, n int, l []T) ([]T, api.Errno) {
	if n < 0 {
		return nil, api.ErrArg
	}
	if !isMapOf(m, n) || Ones(m) != len(l) || hasTwins(l) {
		return nil, api.ErrMap
	}
	row := make([]T, n)
	from := -1
	for i := range row {
		if isSet(m, i) {
			from++
		}
		row[i] = l[from]
	}
	return row, api.OK
}

// isMapOf tells whether a bitmap can be that of a row of n elements.
func isMapOf(m []uint32, n int) bool {
	if len(m) != wordsOf(n) {
		return false
	}
	if n == 0 {
		return true
	}
	behind := uint32(0)
	if used := n % wordBits; used != 0 {
		behind = m[len(m)-1] << used
	}
	return isSet(m, 0) && behind == 0
}

// hasTwins tells whether two neighbours are equal.
func hasTwins[T comparable](l []T) bool {
	for i := 1; i < len(l); i++ {
		if same(l[i-1], l[i]) {
			return true
		}
	}
	return false
}

// same tells whether two elements are equal. Those of an interface may hold what can't be compared, of which Go panics: they are not equal then.
func same[T comparable](a, b T) (equal bool) {
	defer func() {
		if recover() != nil {
			equal = false
		}
	}()
	return a == b
}
