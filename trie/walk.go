package trie

import (
	"iter"

	"turnpike/api"
	"turnpike/prefix"
	"turnpike/word"
)

// Find tells the node of a prefix, -1: none; Down goes over the nodes so many bits below one.
func (t *Trie) Find(p api.Prefix) int {
	if prefix.Check(t.w, p) != api.OK {
		return none
	}
	// The way of its first address goes through all prefixes within which it lies.
	for n := range t.Path(prefix.First(p)) {
		if int(t.nodes[n].length) == p.Len {
			return n
		}
	}
	return none
}

func (t *Trie) Down(n, bits int) iter.Seq[int] {
	return below{tree: t, n: n, bits: bits}.each
}

// below is the nodes that are so many bits longer than one, and lie within it.
type below struct {
	tree    *Trie
	n, bits int
}

func (b below) each(yield func(int) bool) {
	if b.tree.has(b.n) && b.bits >= 0 {
		b.tree.descend(b.n, b.bits, yield)
	}
}

// descend goes over the nodes so many bits below one; false: who ranges over them has enough.
func (t *Trie) descend(n, bits int, yield func(int) bool) bool {
	// Where nothing reaches so far down, no way is gone in vain.
	if t.Height(n) < bits {
		return true
	}
	if bits == 0 {
		return yield(n)
	}
	for bit := range 2 {
		kid := t.Kid(n, bit)
		if kid != none && !t.descend(kid, bits-1, yield) {
			return false
		}
	}
	return true
}

// Lookup walks down; Path goes over the nodes on an address's way.
func (t *Trie) Lookup(w api.Word) int {
	hop := 0
	for n := range t.Path(w) {
		if own := t.Hop(n); own > 0 {
			hop = own
		}
	}
	return hop
}

func (t *Trie) Path(w api.Word) iter.Seq[int] {
	return way{tree: t, to: w}.each
}

// way is the nodes within which an address lies.
type way struct {
	tree *Trie
	to   api.Word
}

func (w way) each(yield func(int) bool) {
	t := w.tree
	// An address is what is right as a prefix of all its bits.
	if prefix.Check(t.w, api.Prefix{Addr: w.to, Len: t.w}) != api.OK {
		return
	}
	for n := 0; n != none && yield(n); {
		n = t.Kid(n, word.Bit(w.to, int(t.nodes[n].length)))
	}
}
