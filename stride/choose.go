package stride

import (
	"turnpike/api"
	"turnpike/cost"
	"turnpike/trie"
)

// choice is the least cost of a tree, and what tells of a node of the plan how many bits it takes, by how many nodes of the plan a path has met with it.
type choice struct {
	cost api.Cost
	bits func(n, met int) int
}

// known is what is known of a shape: what the open nodes that are 0, 1, .. bits longer than a node of it cost together, as far as there are some (so there are as many rows as its height); and how often that will be asked again.
type known struct {
	rows []row[api.Cost]
	asks int32
}

// choose reckons from the ends of the tree up to node 0. A node's rows are those of its kids, one bit on, and its own ahead: so what is below it need not be gone over again for each number of bits.
func choose(tree *trie.Trie, depth int) choice {
	// With more nodes than bits nothing can be spared.
	depth = min(depth, tree.Height(0))
	if depth == 0 {
		return choice{}
	}
	s := shapesOf(tree)
	asks, few := s.asks(), s.fewest(depth)
	taken := make([]row[uint8], len(s.kids))
	// What nobody will ask again is let go: of a great tree all costs would be too many.
	kept := map[int32]known{}
	var best func(x int32) []row[api.Cost]
	best = func(x int32) []row[api.Cost] {
		if x == closed {
			return nil
		}
		k, ok := kept[x]
		if !ok {
			k = known{rows: join(best(s.kids[x].low), best(s.kids[x].high), max(1, few[x]-1)), asks: asks[x]}
			k.rows[0], taken[x] = cheapest(k.rows, few[x], depth)
		}
		if k.asks--; k.asks > 0 {
			kept[x] = k
		} else {
			delete(kept, x)
		}
		return k.rows
	}
	return choice{
		cost: best(s.of[0])[0].at(depth),
		bits: func(n, met int) int { return int(taken[s.of[n]].at(depth + 1 - met)) },
	}
}

// join tells the rows of a node by those of its kids, from a number of nodes on; the place of its own one is left free.
func join(low, high []row[api.Cost], from int) []row[api.Cost] {
	if len(low) > len(high) {
		low, high = high, low
	}
	rows := make([]row[api.Cost], 1+len(high))
	copy(rows[1:], high)
	for i, r := range low {
		rows[1+i] = together(r, high[i], from)
	}
	return rows
}

// cheapest tells the least costs of a node, and its bits, by its rows: from so few nodes on.
func cheapest(rows []row[api.Cost], few, depth int) (row[api.Cost], row[uint8]) {
	spent, taken := row[api.Cost]{from: few}, row[uint8]{from: few}
	// By more nodes than its height nothing changes.
	for nodes := few; nodes <= max(few, min(len(rows), depth)); nodes++ {
		c, bits := least(rows, nodes)
		spent.list = append(spent.list, c)
		taken.list = append(taken.list, uint8(bits))
	}
	return spent.cut(), taken.cut()
}

// least tells the least cost of a node by so many nodes, and the fewest bits with which that is so.
func least(rows []row[api.Cost], nodes int) (spent api.Cost, bits int) {
	height := len(rows)
	if nodes == 1 {
		return power(height), height
	}
	for s := 1; s <= height; s++ {
		c := power(s)
		// Its slots alone cost as much, and those of more bits more.
		if bits > 0 && cost.Cmp(c, spent) >= 0 {
			break
		}
		if s < height {
			c = sum(c, rows[s].at(nodes-1))
		}
		if bits == 0 || cost.Cmp(c, spent) < 0 {
			spent, bits = c, s
		}
	}
	return spent, bits
}
