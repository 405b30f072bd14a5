package stride

import (
	"turnpike/api"
	"turnpike/cost"
)

// row tells something by how many nodes a path may meet: from a number of them on; behind the list's end nothing changes any more. By fewer nodes nobody asks.
type row[T comparable] struct {
	from int
	list []T
}

func (r row[T]) at(nodes int) T {
	return r.list[min(nodes-r.from, len(r.list)-1)]
}

// end is the number of nodes from which on nothing changes.
func (r row[T]) end() int {
	return r.from + len(r.list) - 1
}

// cut leaves away what is the same up to the end.
func (r row[T]) cut() row[T] {
	end := len(r.list) - 1
	for end > 0 && r.list[end-1] == r.list[end] {
		end--
	}
	r.list = r.list[:end+1]
	return r
}

// together is what two rows cost, from a number of nodes on.
func together(a, b row[api.Cost], from int) row[api.Cost] {
	end := max(from, a.end(), b.end())
	both := row[api.Cost]{from: from, list: make([]api.Cost, 0, end-from+1)}
	for nodes := from; nodes <= end; nodes++ {
		both.list = append(both.list, sum(a.at(nodes), b.at(nodes)))
	}
	return both.cut()
}

// sum adds costs of a tree, which fit, however many nodes it has.
func sum(a, b api.Cost) api.Cost {
	c, _ := cost.Add(a, b)
	return c
}

// power is 2 to so many bits of a node, which fits.
func power(bits int) api.Cost {
	c, _ := cost.Pow(bits)
	return c
}
