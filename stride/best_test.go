package stride

import (
	"math/big"
	"slices"
	"strings"
	"testing"

	"turnpike/api"
	"turnpike/cost"
)

// isBest asks that Best and Least are these.
func isBest(t *testing.T, x api.Table, depth int, want []api.Stride, spent *big.Int) {
	t.Helper()
	l, e := Best(x, depth)
	if e != api.OK || !slices.Equal(l, want) {
		t.Fatalf("P1001: %v: Best by %d: %v, %v, want %v", x, depth, l, e, want)
	}
	c, e := Least(x, depth)
	if e != api.OK || number(c).Cmp(spent) != 0 {
		t.Fatalf("P1001: %v: Least by %d: %v, %v, want %v", x, depth, c, e, spent)
	}
}

// TestP1001ByHand: the chapter's examples, and some where several numbers of bits cost the same.
func TestP1001ByHand(t *testing.T) {
	for _, x := range []struct {
		table string
		depth int
		want  string
		cost  int64
	}{
		{"0.0.0.0/2 128.0.0.0/3", 1, "0.0.0.0/0 3", 8},
		{"0.0.0.0/2 128.0.0.0/3", 2, "0.0.0.0/0 2 128.0.0.0/2 1", 6},
		{"0.0.0.0/2 128.0.0.0/3", 3, "0.0.0.0/0 2 128.0.0.0/2 1", 6},
		{"0.0.0.0/2 128.0.0.0/3", 4, "0.0.0.0/0 2 128.0.0.0/2 1", 6},
		{"0.0.0.0/2 128.0.0.0/3", 32, "0.0.0.0/0 2 128.0.0.0/2 1", 6},
		{"", 1, "", 0}, {"", 32, "", 0}, {"0.0.0.0/0", 1, "", 0}, {"0.0.0.0/0", 32, "", 0},
		{"0.0.0.0/1", 1, "0.0.0.0/0 1", 2}, {"128.0.0.0/1", 32, "0.0.0.0/0 1", 2}, {"0.0.0.0/0 0.0.0.0/1 128.0.0.0/1", 2, "0.0.0.0/0 1", 2},
		// 2 bits cost 4; 1 and 1 do so, too.
		{"64.0.0.0/2", 1, "0.0.0.0/0 2", 4}, {"64.0.0.0/2", 2, "0.0.0.0/0 1 0.0.0.0/1 1", 4}, {"64.0.0.0/2", 32, "0.0.0.0/0 1 0.0.0.0/1 1", 4},
		// Both kids are open: 2 + 2 + 2.
		{"64.0.0.0/2 128.0.0.0/2", 2, "0.0.0.0/0 2", 4}, {"64.0.0.0/2 128.0.0.0/2", 32, "0.0.0.0/0 2", 4},
		// 1 and 2 bits, 2 and 1, 1, 1 and 1 cost 6.
		{"32.0.0.0/3", 1, "0.0.0.0/0 3", 8}, {"32.0.0.0/3", 2, "0.0.0.0/0 1 0.0.0.0/1 2", 6}, {"32.0.0.0/3", 3, "0.0.0.0/0 1 0.0.0.0/1 1 0.0.0.0/2 1", 6},
		// 3 bits cost 8; 2 with two nodes below, 4 + 2 + 2, do so, too; 1 with 4 and 4 more.
		{"0.0.0.0/3 192.0.0.0/3", 1, "0.0.0.0/0 3", 8}, {"0.0.0.0/3 192.0.0.0/3", 2, "0.0.0.0/0 2 0.0.0.0/2 1 192.0.0.0/2 1", 8}, {"0.0.0.0/3 192.0.0.0/3", 32, "0.0.0.0/0 2 0.0.0.0/2 1 192.0.0.0/2 1", 8},
		// What stands on the way changes nothing.
		{"0.0.0.0/0 0.0.0.0/1 0.0.0.0/2 32.0.0.0/3", 2, "0.0.0.0/0 1 0.0.0.0/1 2", 6},
		{"10.0.0.0/8", 1, "0.0.0.0/0 8", 256}, {"10.0.0.0/8", 2, "0.0.0.0/0 4 0.0.0.0/4 4", 32}, {"10.0.0.0/8", 3, "0.0.0.0/0 2 0.0.0.0/2 3 8.0.0.0/5 3", 20},
	} {
		isBest(t, read4(x.table), x.depth, stridesOf(x.want), big.NewInt(x.cost))
	}
}

// TestP1001Long: of one route as long as an address, by every depth: as even as can be, the fewest bits first.
func TestP1001Long(t *testing.T) {
	for _, family := range families {
		s := strings.Repeat("01", family/2)
		x := setOf(s).table(family)
		for depth := 1; depth <= family; depth++ {
			want, spent, at := []api.Stride(nil), new(big.Int), 0
			for left := depth; left > 0; left-- {
				bits := (family - at) / left
				want = append(want, api.Stride{At: made(s[:at]), Bits: bits})
				spent.Add(spent, new(big.Int).Lsh(big.NewInt(1), uint(bits)))
				at += bits
			}
			isBest(t, x, depth, want, spent)
		}
	}
	six := setOf(fill("", 128, "0")).table(128)
	for depth, want := range map[int]api.Cost{1: {1, 0, 0}, 2: {0, 2, 0}, 63: cost.Of(260), 64: cost.Of(256), 65: cost.Of(256), 127: cost.Of(256), 128: cost.Of(256)} {
		if c, e := Least(six, depth); c != want || e != api.OK {
			t.Errorf("P1001: Least by %d: %v, %v, want %v", depth, c, e, want)
		}
	}
}

// TestP1001AsTheChapterSays: tables of both families, by the words of the chapter.
func TestP1001AsTheChapterSays(t *testing.T) {
	for _, family := range families {
		for _, m := range someSets(family) {
			x, tree := m.table(family), m.tree()
			tell := tree.asked()
			for _, depth := range depths(family, tree.height[""]) {
				p, spent := tree.best(tell, depth)
				isBest(t, x, depth, p.strides(), spent)
			}
		}
	}
}

// TestP1001SmallTrees: all small ones, by every depth up to one behind the height.
func TestP1001SmallTrees(t *testing.T) {
	for _, family := range families {
		for _, root := range roots(family) {
			for i, m := range smallSets(root, "", 7) {
				// The way down to a far root is gone over again for each of them.
				if len(root) > 8 && i%31 != len(root)%31 {
					continue
				}
				x, tree := m.table(family), m.tree()
				tell := tree.asked()
				for _, depth := range []int{1, 2, 3, max(1, len(root)/2), len(root) + 1, min(family, len(root)+3)} {
					p, spent := tree.best(tell, depth)
					isBest(t, x, depth, p.strides(), spent)
				}
			}
		}
	}
	for bits := 0; bits < 1<<15; bits += 7 {
		m := smallSet("", "", bits)
		x, tree := m.table(32), m.tree()
		tell := tree.asked()
		for depth := 1; depth <= 5; depth++ {
			p, spent := tree.best(tell, depth)
			isBest(t, x, depth, p.strides(), spent)
		}
	}
}

// TestP1001EveryDepth: of some tables by all depths that there are.
func TestP1001EveryDepth(t *testing.T) {
	for _, family := range families {
		next := counter()
		m := setOf(fill("", family, "1"), spell(api.Word{Hi: next(), Lo: next()}, family), spell(api.Word{Hi: next(), Lo: next()}, family-3))
		for range 12 {
			m["0101"+spell(api.Word{Hi: next()}, 9)] = 1
		}
		x, tree := m.table(family), m.tree()
		tell := tree.asked()
		for depth := 1; depth <= family; depth++ {
			p, spent := tree.best(tell, depth)
			isBest(t, x, depth, p.strides(), spent)
		}
	}
}

// TestP1001NoDepth: a depth that may not be is refused, of tables with open nodes and without.
func TestP1001NoDepth(t *testing.T) {
	for _, family := range families {
		for _, m := range someSets(family) {
			x := m.table(family)
			for _, depth := range noNumbers(family) {
				if l, e := Best(x, depth); len(l) != 0 || e != api.ErrDepth {
					t.Fatalf("P1001: Best by %d: %v, %v", depth, l, e)
				}
				if c, e := Least(x, depth); c != (api.Cost{}) || e != api.ErrDepth {
					t.Fatalf("P1001: Least by %d: %v, %v", depth, c, e)
				}
			}
		}
	}
	// What is a depth hangs on the table's family.
	for depth := 33; depth <= 128; depth++ {
		if _, e := Best(setOf("01").table(32), depth); e != api.ErrDepth {
			t.Errorf("P1001: Best by %d: %v", depth, e)
		}
		if l, e := Best(setOf("01").table(128), depth); e != api.OK || len(l) != 2 {
			t.Errorf("P1001: Best by %d: %v, %v", depth, l, e)
		}
	}
}

// TestP1001WrongTables: their own error comes first, whatever the depth.
func TestP1001WrongTables(t *testing.T) {
	for _, family := range families {
		for _, x := range wrongTables(family) {
			for _, depth := range []int{-1, 0, 1, 2, family, family + 1} {
				if l, e := Best(x.x, depth); len(l) != 0 || e != x.e {
					t.Fatalf("P1001: Best by %d: %v, want %v", depth, e, x.e)
				}
				if c, e := Least(x.x, depth); c != (api.Cost{}) || e != x.e {
					t.Fatalf("P1001: Least by %d: %v, %v, want %v", depth, c, e, x.e)
				}
			}
		}
	}
}
