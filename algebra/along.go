package algebra

import (
	"iter"

	"turnpike/api"
	"turnpike/word"
)

// stretch is addresses beside one another, both ends counted.
type stretch struct {
	first, last api.Word
}

// along goes through two right lists of one family at a time: over the longest stretches that lie in one segment of each, with what is answered of their two next hops.
func along[T any](a, b []api.Seg, ask func(x, y int) T) iter.Seq2[stretch, T] {
	return func(yield func(stretch, T) bool) {
		i, k := 0, 0
		for i < len(a) && k < len(b) {
			x, y := a[i], b[k]
			at := common(x, y)
			if !yield(at, ask(x.Hop, y.Hop)) {
				return
			}
			if x.Last == at.last {
				i++
			}
			if y.Last == at.last {
				k++
			}
		}
	}
}

// common tells the addresses that two segments both have.
func common(x, y api.Seg) stretch {
	at := stretch{first: x.First, last: x.Last}
	if word.Cmp(at.first, y.First) < 0 {
		at.first = y.First
	}
	if word.Cmp(y.Last, at.last) < 0 {
		at.last = y.Last
	}
	return at
}

// joined tells the right segments of what is answered of the next hops of two.
func joined(a, b []api.Seg, ask func(x, y int) int) []api.Seg {
	var l []api.Seg
	for at, hop := range along(a, b, ask) {
		l = behind(l, api.Seg{First: at.first, Last: at.last, Hop: hop})
	}
	return l
}
