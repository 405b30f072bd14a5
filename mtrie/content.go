package mtrie

import (
	"iter"
	"slices"

	"turnpike/api"
	"turnpike/word"
)

// content is what stands in a slot. It is of one of two kinds: a lead or an answer.
type content interface {
	// run is the run of slots that hold it, from one on.
	run(from api.Word) api.Run
}

// lead is the number of the node at which a lookup goes on.
type lead int

func (x lead) run(from api.Word) api.Run {
	return api.Run{From: from, Kid: true, N: int(x)}
}

// answer is the next hop with which a lookup ends; 0: none.
type answer int

func (x answer) run(from api.Word) api.Run {
	return api.Run{From: from, N: int(x)}
}

// contentOf tells what a run's slots hold.
func contentOf(r api.Run) content {
	if r.Kid {
		return lead(r.N)
	}
	return answer(r.N)
}

// sayTheSame tells whether two runs' slots hold the same.
func sayTheSame(a, b api.Run) bool {
	return a.Kid == b.Kid && a.N == b.N
}

// slot tells what a slot of a right node holds.
func slot(n api.Node, number api.Word) content {
	i, begins := slices.BinarySearchFunc(n.Runs, number, func(r api.Run, number api.Word) int {
		return word.Cmp(r.From, number)
	})
	// Within a run, the one ahead of where it would begin holds it; slot 0 begins one.
	if !begins {
		i--
	}
	return contentOf(n.Runs[i])
}

// kids goes over the numbers of the nodes to which a node's runs lead.
func kids(n api.Node) iter.Seq[int] {
	return func(yield func(int) bool) {
		for _, r := range n.Runs {
			if x, ok := contentOf(r).(lead); ok && !yield(int(x)) {
				return
			}
		}
	}
}

// walk tells the answer of a right list for an address.
func walk(l []api.Node, w api.Word) int {
	node, met := 0, 0
	for {
		// A right list takes no bits that the word has not, so that this answers no error.
		number, _ := word.Field(w, met, l[node].Bits)
		met += l[node].Bits
		switch x := slot(l[node], number).(type) {
		case lead:
			node = int(x)
		case answer:
			return int(x)
		}
	}
}
