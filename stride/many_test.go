package stride

import (
	"math/big"
	"slices"
	"testing"

	"turnpike/api"
	"turnpike/cost"
	"turnpike/prefix"
)

// TestMaxEntries: just so many routes of 20 bits, one beside the other: nothing costs less than all bits at once.
func TestMaxEntries(t *testing.T) {
	const length = 20
	for _, family := range families {
		x := api.Table{W: family, Routes: full()}
		for _, depth := range []int{1, 2, family} {
			isBest(t, x, depth, []api.Stride{{Bits: length}}, big.NewInt(1<<length))
		}
		for _, bits := range []int{1, 7, family} {
			l, e := Even(x, bits)
			want, spent, depth := 0, uint64(0), 0
			for at := 0; at < length; at += bits {
				want += 1 << at
				spent += 1 << at << min(bits, length-at)
				depth++
			}
			if e != api.OK || len(l) != want || !slices.IsSortedFunc(l, func(a, b api.Stride) int { return prefix.Cmp(a.At, b.At) }) {
				t.Fatalf("P1003: Even by %d: %d strides, %v, want %d", bits, len(l), e, want)
			}
			c, d, e := Check(x, l)
			if c != cost.Of(spent) || d != depth || e != api.OK {
				t.Fatalf("P1002: Check of Even by %d: %v, %d, %v, want %d, %d", bits, c, d, e, spent, depth)
			}
			if _, _, e := Check(x, l[:want-1]); e != api.ErrPlan {
				t.Fatalf("P1002: Check without the last one of Even by %d: %v", bits, e)
			}
		}
	}
}

// comb is a tree with both kids everywhere in its first bits, and one kid everywhere behind them; what its nodes cost is told by their length alone.
type comb struct {
	first, length int
	kept          map[[2]int]*big.Int
}

// at tells how many nodes of the length n there are within one of the length m.
func (x comb) at(m, n int) *big.Int {
	return new(big.Int).Lsh(big.NewInt(1), uint(max(0, min(n, x.first)-m)))
}

// least tells c of a node of the length n.
func (x comb) least(n, nodes int) *big.Int {
	if c, ok := x.kept[[2]int{n, nodes}]; ok {
		return c
	}
	height := x.length - n
	best := new(big.Int).Lsh(big.NewInt(1), uint(height))
	for bits := 1; bits < height && nodes > 1; bits++ {
		c := new(big.Int).Mul(x.at(n, n+bits), x.least(n+bits, nodes-1))
		if c.Add(c, new(big.Int).Lsh(big.NewInt(1), uint(bits))); c.Cmp(best) < 0 {
			best = c
		}
	}
	x.kept[[2]int{n, nodes}] = best
	return best
}

// TestManyNodes: many routes as long as an address, thin at their ends, so that most nodes have one kid.
func TestManyNodes(t *testing.T) {
	const ends, bits = 1 << 12, 12
	for _, family := range families {
		x := api.Table{W: family}
		for i := range uint64(ends) {
			// Behind the first bits the ways go on by others each.
			w := api.Word{Hi: i<<(64-bits) | i*0x9e3779b97f4a7c15>>bits, Lo: i * 0xbf58476d1ce4e5b9}
			if family == 32 {
				w = api.Word{Hi: w.Hi &^ (1<<32 - 1)}
			}
			x.Routes = append(x.Routes, api.Route{At: api.Prefix{Addr: w, Len: family}, Hop: 1 + int(i)})
		}
		model := comb{first: bits, length: family, kept: map[[2]int]*big.Int{}}
		for _, depth := range []int{1, 2, 3, 5, 10, family - bits, family - 1, family} {
			l, least := bestOf(t, x, depth)
			if number(least).Cmp(model.least(0, depth)) != 0 {
				t.Fatalf("P1001: Least by %d: %v, want %v", depth, least, model.least(0, depth))
			}
			if c, d, e := Check(x, l); c != least || d > depth || e != api.OK {
				t.Fatalf("P1004: Check of Best by %d: %v, %d, %v", depth, c, d, e)
			}
		}
	}
}

// TestManyRoutes: many of all lengths, as the chapter says.
func TestManyRoutes(t *testing.T) {
	next := counter()
	for _, family := range families {
		m := set{}
		for range 1500 {
			m[spell(api.Word{Hi: next(), Lo: next()}, 4+int(next()%20))] = 1
		}
		x, tree := m.table(family), m.tree()
		tell := tree.asked()
		for _, depth := range []int{1, 2, 4, 7, family} {
			p, spent := tree.best(tell, depth)
			isBest(t, x, depth, p.strides(), spent)
		}
	}
}

// TestMaxCost: the greatest cost of a node, beside lesser ones.
func TestMaxCost(t *testing.T) {
	m := setOf(fill("", 128, "0"), fill("", 128, "1"), fill("01", 128, "0"))
	x, tree := m.table(128), m.tree()
	isBest(t, x, 1, []api.Stride{{Bits: 128}}, new(big.Int).Lsh(big.NewInt(1), 128))
	// Three nodes of 127 and 126 bits, and those of 1 bit: more than 2^128.
	p := plan{"": 1, "0": 1, "00": 126, "01": 126, "1": 127}
	if !isChecked(t, x, tree, p.strides()) {
		t.Error("P1002: it is a plan")
	}
	if c, depth, e := Check(x, p.strides()); c != (api.Cost{1, 0, 4}) || depth != 3 || e != api.OK {
		t.Errorf("P1002: %v, %d, %v", c, depth, e)
	}
}
