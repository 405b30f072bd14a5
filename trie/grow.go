package trie

import (
	"turnpike/api"
	"turnpike/prefix"
	"turnpike/word"
)

// grower makes a tree of routes. These come in order: so each node is laid behind those that stand ahead of it.
type grower struct {
	tree *Trie
	way  []int // the nodes within which the last route's prefix lies, by their length
}

// grow makes the tree of a right table.
func grow(t api.Table) *Trie {
	// All its room is taken at once: a list that grows would be moved, and take twice as much meanwhile.
	tree := &Trie{w: t.W, nodes: make([]node, 0, size(t.Routes)), words: make([]api.Word, 0, 1+len(t.Routes))}
	g := grower{tree: tree, way: make([]int, 0, 1+t.W)}
	tree.words = append(tree.words, api.Word{})
	g.lay()
	last := api.Prefix{}
	for _, r := range t.Routes {
		g.back(prefix.Meet(last, r.At).Len)
		g.down(r)
		last = r.At
	}
	g.back(0)
	return tree
}

// size tells how many nodes routes in order have: each one brings those that are longer than what it has alike with the one ahead.
func size(l []api.Route) int {
	n, last := 1, api.Prefix{}
	for _, r := range l {
		n += r.At.Len - prefix.Meet(last, r.At).Len
		last = r.At
	}
	return n
}

// lay puts a node at the list's end and at that of the way; its bits are the last word's first ones.
func (g *grower) lay() {
	t := g.tree
	g.way = append(g.way, len(t.nodes))
	t.nodes = append(t.nodes, node{word: int32(len(t.words) - 1), length: uint8(len(g.way) - 1)})
}

// down lays what a route's way lacks, and puts its next hop at the end.
func (g *grower) down(r api.Route) {
	t := g.tree
	t.words = append(t.words, r.At.Addr)
	for len(g.way) <= r.At.Len {
		up := len(g.way) - 1
		if word.Bit(r.At.Addr, up) == 1 {
			t.nodes[g.way[up]].high = int32(len(t.nodes))
		}
		g.lay()
	}
	end := &t.nodes[g.way[r.At.Len]]
	end.hop = uint16(r.Hop)
	end.count++
}

// back leaves the nodes of the way that are longer: nothing else will lie within them, so that the node above each can reckon with what it holds.
func (g *grower) back(length int) {
	for end := len(g.way) - 1; end > length; end-- {
		kid, parent := &g.tree.nodes[g.way[end]], &g.tree.nodes[g.way[end-1]]
		parent.count += kid.count
		parent.height = max(parent.height, kid.height+1)
		g.way = g.way[:end]
	}
}
