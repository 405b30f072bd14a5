package emit

import (
	"slices"

	"turnpike/api"
)

const (
	wordBytes = 4
	wordBits  = 32
)

// layout is where nodes are laid: their numbers in order; by their numbers, the words at which they begin; and how many words that are.
type layout struct {
	order, places []int
	words         int
}

func layoutOf(family int, l []api.Node) (layout, api.Errno) {
	order, e := Order(family, l)
	if e != api.OK {
		return layout{}, e
	}
	x := layout{order: order, places: make([]int, len(l))}
	for _, number := range order {
		if !canBeLaid(l[number]) {
			return layout{}, api.ErrSize
		}
		x.places[number] = x.words
		x.words += size(l[number])
	}
	return x, api.OK
}

// walk tells the numbers of the nodes of a right list in its order. It goes down no further than addresses have bits.
func walk(l []api.Node) []int {
	met := make([]bool, len(l))
	done := make([]int, 0, len(l))
	var down func(number int)
	down = func(number int) {
		met[number] = true
		for _, r := range slices.Backward(l[number].Runs) {
			if r.Kid && !met[r.N] {
				down(r.N)
			}
		}
		done = append(done, number)
	}
	down(0)
	slices.Reverse(done)
	return done
}

// canBeLaid tells whether an image can hold a map of a node's bits.
func canBeLaid(n api.Node) bool {
	return n.Bits <= api.MaxBits
}

// size is how many words a node that can be laid has.
func size(n api.Node) int {
	if n.Bits == 0 {
		return 1
	}
	return 2 + mapWords(n.Bits) + len(n.Runs)
}

// mapWords is how many words a map of so many bits has.
func mapWords(bits int) int {
	return max(1, (1<<bits)/wordBits)
}
