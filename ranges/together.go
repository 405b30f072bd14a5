package ranges

import (
	"slices"

	"turnpike/addr"
	"turnpike/api"
	"turnpike/prefix"
)

// inOrder is the list in the order of prefixes, as new memory: the one that is handed in stays as it is.
func inOrder(l []api.Prefix) []api.Prefix {
	sorted := slices.Clone(l)
	slices.SortFunc(sorted, prefix.Cmp)
	return sorted
}

// putTogether puts each part of a list into the one ahead where put makes one of both. What comes of two may be one with the part ahead of them, which is asked then.
func putTogether[T any](l []T, put func(ahead, part T) (T, bool)) []T {
	var done []T
	for _, part := range l {
	again:
		if end := len(done) - 1; end >= 0 {
			if one, ok := put(done[end], part); ok {
				done, part = done[:end], one
				goto again
			}
		}
		done = append(done, part)
	}
	return done
}

// unite makes one of two prefixes in order, if one prefix has just what they have.
func unite(ahead, p api.Prefix) (api.Prefix, bool) {
	if prefix.Within(p, ahead) {
		return ahead, true
	}
	if other, ok := prefix.Sibling(ahead); ok && other == p {
		return prefix.Parent(ahead)
	}
	return api.Prefix{}, false
}

// beside gives what makes one of two segments between which no address lies.
func beside(family int) func(ahead, s api.Seg) (api.Seg, bool) {
	return func(ahead, s api.Seg) (api.Seg, bool) {
		behind, ok := addr.Next(family, ahead.Last)
		if !ok || behind != s.First {
			return api.Seg{}, false
		}
		return api.Seg{First: ahead.First, Last: s.Last, Hop: ahead.Hop}, true
	}
}
