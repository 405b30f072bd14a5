package stride

import (
	"slices"
	"testing"

	"turnpike/api"
)

// isEven asks that Even is the plan of the model, and that Check takes it for one.
func isEven(t *testing.T, x api.Table, tree tree, bits int) {
	t.Helper()
	l, e := Even(x, bits)
	if e != api.OK || !slices.Equal(l, tree.even(bits).strides()) {
		t.Fatalf("P1003: %v: Even by %d: %v, %v, want %v", x, bits, l, e, tree.even(bits).strides())
	}
	if !isChecked(t, x, tree, l) {
		t.Fatalf("P1003: %v: Even by %d: %v is no plan", x, bits, l)
	}
}

func TestP1003ByHand(t *testing.T) {
	for _, x := range []struct {
		table string
		bits  int
		want  string
	}{
		{"0.0.0.0/2 128.0.0.0/3", 1, "0.0.0.0/0 1 0.0.0.0/1 1 128.0.0.0/1 1 128.0.0.0/2 1"},
		{"0.0.0.0/2 128.0.0.0/3", 2, "0.0.0.0/0 2 128.0.0.0/2 1"},
		{"0.0.0.0/2 128.0.0.0/3", 3, "0.0.0.0/0 3"}, {"0.0.0.0/2 128.0.0.0/3", 4, "0.0.0.0/0 3"}, {"0.0.0.0/2 128.0.0.0/3", 32, "0.0.0.0/0 3"},
		{"", 1, ""}, {"", 32, ""}, {"0.0.0.0/0", 1, ""}, {"0.0.0.0/0", 32, ""},
		{"10.1.2.3/32", 8, "0.0.0.0/0 8 10.0.0.0/8 8 10.1.0.0/16 8 10.1.2.0/24 8"},
		{"10.1.2.3/32", 31, "0.0.0.0/0 31 10.1.2.2/31 1"}, {"10.1.2.3/32", 32, "0.0.0.0/0 32"},
		{"10.0.0.0/8 10.1.2.0/24 11.0.0.0/9 12.0.0.0/8", 8, "0.0.0.0/0 8 10.0.0.0/8 8 10.1.0.0/16 8 11.0.0.0/8 1"},
	} {
		if l, e := Even(read4(x.table), x.bits); e != api.OK || !slices.Equal(l, stridesOf(x.want)) {
			t.Errorf("P1003: %s: Even by %d: %v, %v, want %s", x.table, x.bits, l, e, x.want)
		}
	}
}

func TestP1003(t *testing.T) {
	for _, family := range families {
		for _, m := range someSets(family) {
			x, tree := m.table(family), m.tree()
			for bits := 1; bits <= family; bits++ {
				if bits < 12 || bits > family-3 || bits%9 == 0 {
					isEven(t, x, tree, bits)
				}
			}
		}
		for _, m := range smallSets("", "", 7) {
			for _, bits := range []int{1, 2, 3, family} {
				isEven(t, m.table(family), m.tree(), bits)
			}
		}
	}
}

// TestP1003NoBits: bits that may not be are refused, of tables with open nodes and without.
func TestP1003NoBits(t *testing.T) {
	for _, family := range families {
		for _, m := range someSets(family) {
			for _, bits := range noNumbers(family) {
				if l, e := Even(m.table(family), bits); len(l) != 0 || e != api.ErrArg {
					t.Fatalf("P1003: Even by %d: %v, %v", bits, l, e)
				}
			}
		}
	}
	for bits := 33; bits <= 128; bits++ {
		if _, e := Even(setOf("01").table(32), bits); e != api.ErrArg {
			t.Errorf("P1003: Even by %d: %v", bits, e)
		}
		if l, e := Even(setOf("01").table(128), bits); e != api.OK || len(l) != 1 || l[0].Bits != 2 {
			t.Errorf("P1003: Even by %d: %v, %v", bits, l, e)
		}
	}
}

func TestP1003WrongTables(t *testing.T) {
	for _, family := range families {
		for _, x := range wrongTables(family) {
			for _, bits := range []int{-1, 0, 1, 8, family, family + 1} {
				if l, e := Even(x.x, bits); len(l) != 0 || e != x.e {
					t.Fatalf("P1003: Even by %d: %v, %v, want %v", bits, l, e, x.e)
				}
			}
		}
	}
}
