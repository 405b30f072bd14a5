package prefix

import (
	"iter"

	"turnpike/api"
	"turnpike/word"
)

// Split goes over all prefixes of a length within one.
func Split(family int, p api.Prefix, n int) iter.Seq[api.Prefix] {
	return func(yield func(api.Prefix) bool) {
		if Check(family, p) != api.OK || n < p.Len || n > family {
			return
		}
		last := cut(Last(family, p), n)
		for w := range rising(First(p), last.Addr, bit(n-1)) {
			if !yield(api.Prefix{Addr: w, Len: n}) {
				return
			}
		}
	}
}

// rising goes over the numbers from first to last, each greater by step. It ends at last, not behind it: behind the greatest number there is none.
func rising(first, last, step api.Word) iter.Seq[api.Word] {
	return func(yield func(api.Word) bool) {
		for w := first; yield(w) && w != last; w, _ = word.Add(w, step) {
		}
	}
}
