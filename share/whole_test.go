package share

import (
	"math"
	"math/big"
	"slices"
	"testing"

	"turnpike/api"
	"turnpike/mtrie"
)

// wholeOf asks for what Whole tells of a right list.
func wholeOf(t *testing.T, l []api.Node, most int) []api.Node {
	t.Helper()
	s, e := Whole(l, most)
	if e != api.OK {
		t.Fatalf("P1203: Whole of %s by %d: %v", textOf(l), most, e)
	}
	return s
}

// isWhole asks that Whole tells what the chapter says of a right list, just where there are no more nodes than may be.
func isWhole(t *testing.T, l []api.Node) {
	t.Helper()
	want := whole(l)
	for _, most := range []int{len(want), len(want) + 1, 1 << 31, math.MaxInt} {
		if s := wholeOf(t, l, most); !like(s, want) {
			t.Fatalf("P1203: Whole of %s by %d:\n%s, want\n%s", textOf(l), most, textOf(s), textOf(want))
		}
	}
	for _, most := range []int{len(want) - 1, len(want) / 2, 0} {
		if s, e := Whole(l, most); len(s) != 0 || e != api.ErrLong {
			t.Fatalf("P1203: Whole of %s by %d: %v, %v", textOf(l), most, s, e)
		}
	}
}

// TestP1203TheExample: the chapter's second one.
func TestP1203TheExample(t *testing.T) {
	if s := wholeOf(t, nodesOf("1 0>1; 1 0=5 1=6"), 2); textOf(s) != "1 0>1; 1 0=5 1=6" {
		t.Errorf("P1203: %s", textOf(s))
	}
}

func TestP1203ByHand(t *testing.T) {
	for _, x := range [][2]string{
		{"0 0=0", "0 0=0"}, {"1 0=1", "1 0=1"}, {"1 0=1 1=2", "1 0=1 1=2"}, {"128 0=1 0x80000000000000000000000000000000=2", "128 0=1 170141183460469231731687303715884105728=2"},
		// Equal nodes stay as many as they are; a run is one way, however many slots it has.
		{"1 0>1 1>2; 1 0=5 1=6; 1 0=5 1=6", "1 0>1 1>2; 1 0=5 1=6; 1 0=5 1=6"}, {"7 0>1 100=1; 7 0=5", "7 0>1 100=1; 7 0=5"},
		// Several runs lead to one node: of one node, of two, on several levels.
		{"2 0>1 1=3 2>1; 1 0=5", "2 0>1 1=3 2>2; 1 0=5; 1 0=5"},
		{"1 0>1 1>2; 1 0>2 1=9; 1 0=1", "1 0>1 1>3; 1 0>2 1=9; 1 0=1; 1 0=1"},
		{"2 0>1 1=3 2>1; 2 0>2 1=3 2>2; 1 0=5", "2 0>1 1=3 2>4; 2 0>2 1=3 2>3; 1 0=5; 1 0=5; 2 0>5 1=3 2>6; 1 0=5; 1 0=5"},
		{"2 0>1 1>2 2>3; 1 0>2 1>3; 1 0>3; 1 0=7", "2 0>1 1>5 2>7; 1 0>2 1>4; 1 0>3; 1 0=7; 1 0=7; 1 0>6; 1 0=7; 1 0=7"},
		// Neighbouring runs that lead to equal nodes stay two.
		{"1 0>1 1>2; 1 0>3; 1 0>3; 1 0=7", "1 0>1 1>3; 1 0>2; 1 0=7; 1 0>4; 1 0=7"},
		// The numbers are those of the walk, not the list's.
		{"2 0>3 1>2 2>1; 1 0=1; 1 0=2; 1 0=3", "2 0>1 1>2 2>3; 1 0=3; 1 0=2; 1 0=1"},
		{"1 0>2 1>1; 1 0>2 1=1; 1 0=3", "1 0>1 1>2; 1 0=3; 1 0>3 1=1; 1 0=3"},
		{"1 0>1 1>2; 1 0>4 1>3; 1 0=0 1=1; 1 0=2 1=3; 1 0=4 1=5", "1 0>1 1>4; 1 0>2 1>3; 1 0=4 1=5; 1 0=2 1=3; 1 0=0 1=1"},
	} {
		l := nodesOf(x[0])
		size := len(nodesOf(x[1]))
		if s := wholeOf(t, l, size); textOf(s) != x[1] {
			t.Errorf("P1203: %s: %s, want %s", x[0], textOf(s), x[1])
		}
		if s, e := Whole(l, size-1); len(s) != 0 || e != api.ErrLong {
			t.Errorf("P1203: %s by %d: %v, %v", x[0], size-1, s, e)
		}
		isWhole(t, l)
	}
}

// TestP1203Wrong: mtrie.Check's error by 128, ahead of ErrArg, which is ahead of ErrLong.
func TestP1203Wrong(t *testing.T) {
	for _, x := range wrong {
		l := nodesOf(x.text)
		for _, most := range []int{math.MinInt, -1, 0, 100, math.MaxInt} {
			want := x.six
			switch {
			case want == api.OK && most < 0:
				want = api.ErrArg
			case want == api.OK && most == 0:
				want = api.ErrLong
			}
			if s, e := Whole(l, most); (len(s) == 0) == (want == api.OK) || e != want {
				t.Errorf("P1203: %s by %d: %v, %v, want %v", x.text, most, s, e, want)
			}
		}
	}
	for _, most := range []int{math.MinInt, math.MinInt + 1, -1 << 32, -2, -1} {
		for _, l := range [][]api.Node{nodesOf("0 0=1"), nodesOf("1 0>1 1>2; 1 0=1; 1 0=1"), doubling(64)} {
			if s, e := Whole(l, most); len(s) != 0 || e != api.ErrArg {
				t.Errorf("P1203: by %d: %v, %v", most, s, e)
			}
		}
	}
}

func TestP1203SmallLists(t *testing.T) {
	for size := 1; size <= 4; size++ {
		for l := range smallLists(size) {
			isWhole(t, l)
		}
	}
}

func TestP1203AsTheChapterSays(t *testing.T) {
	count := 0
	for _, l := range samples(128) {
		if sizeBy(l).Cmp(big.NewInt(300)) > 0 {
			continue
		}
		count++
		isWhole(t, l)
		if s := wholeOf(t, l, 300); !isRight(128, s) {
			t.Fatalf("P1203: Whole of %s is not right: %s", textOf(l), textOf(s))
		}
	}
	if count < 1500 {
		t.Errorf("only %d lists", count)
	}
}

// TestP1203OwnNodes: to each node but node 0 just one run leads.
func TestP1203OwnNodes(t *testing.T) {
	for _, l := range samples(128) {
		if sizeBy(l).Cmp(big.NewInt(5000)) > 0 {
			continue
		}
		s := wholeOf(t, l, 5000)
		var to []int
		for _, n := range s {
			for _, r := range n.Runs {
				if r.Kid {
					to = append(to, r.N)
				}
			}
		}
		slices.Sort(to)
		for i, n := range to {
			if n != i+1 {
				t.Fatalf("P1203: %s: runs lead to %v", textOf(s), to)
			}
		}
		if len(to) != len(s)-1 || int64(len(s)) != sizeBy(l).Int64() {
			t.Fatalf("P1203: %d nodes, %d runs lead to one, want %v nodes", len(s), len(to), sizeBy(l))
		}
	}
}

// manyWays is a list of so many nodes of some bits, each of which leads to the next one by every other slot.
func manyWays(size, bits int) []api.Node {
	l := make([]api.Node, size)
	for i := range l {
		l[i].Bits = bits
		for slot := range uint64(1) << bits {
			r := api.Run{From: api.Word{Lo: slot}, N: int(slot)}
			if slot%2 == 0 && i < size-1 {
				r.Kid, r.N = true, i+1
			}
			l[i].Runs = append(l[i].Runs, r)
		}
	}
	return l
}

// TestP1203FarTooMany: lists whose whole nobody could lay out. A bound that is above what is laid for a while tells of one that goes on till it is reached.
func TestP1203FarTooMany(t *testing.T) {
	for _, l := range [][]api.Node{doubling(64), doubling(63), doubling(50), manyWays(32, 4), manyWays(16, 8), manyWays(8, 16)} {
		if _, e := mtrie.Check(128, l); e != api.OK {
			t.Fatal(e)
		}
		size := sizeBy(l)
		for _, most := range []int{0, 1, 1000, 1 << 20, 1 << 31, 1 << 40, 1<<50 - 2} {
			if s, e := Whole(l, most); len(s) != 0 || e != api.ErrLong {
				t.Errorf("P1203: %v nodes by %d: %d, %v", size, most, len(s), e)
			}
		}
		if size.IsInt64() && size.Int64() < math.MaxInt64 {
			continue
		}
		for _, most := range []int{1 << 62, math.MaxInt - 1} {
			if s, e := Whole(l, most); len(s) != 0 || e != api.ErrLong {
				t.Errorf("P1203: %v nodes by %d: %d, %v", size, most, len(s), e)
			}
		}
	}
}

// TestP1203WideCounts: numbers of nodes just at the greatest int, and far beyond, are told from a bound.
func TestP1203WideCounts(t *testing.T) {
	for _, x := range []struct {
		size int // of a list whose whole has 2 to that, less 1
		most int
		ok   bool
	}{
		{1, 1, true}, {1, 0, false}, {2, 3, true}, {2, 2, false}, {20, 1<<20 - 1, true}, {20, 1<<20 - 2, false}, {20, 1 << 20, true},
		{62, 1<<62 - 1, true}, {62, 1<<62 - 2, false}, {62, math.MaxInt, true}, {63, math.MaxInt, true}, {63, math.MaxInt - 1, false}, {64, math.MaxInt, false}, {32, 1<<32 - 1, true}, {32, 1<<32 - 2, false}, {32, math.MaxInt32, false}, {31, math.MaxInt32, true}, {31, math.MaxInt32 - 1, false},
	} {
		size, ok := wholeSize(doubling(x.size), x.most)
		want := 0
		if x.ok {
			want = 1<<x.size - 1
		}
		if ok != x.ok || size != want {
			t.Errorf("P1203: %d nodes by %d: %d, %v", x.size, x.most, size, ok)
		}
	}
	for _, l := range [][]api.Node{manyWays(32, 4), manyWays(16, 8), manyWays(8, 16)} {
		if size, ok := wholeSize(l, math.MaxInt); ok || size != 0 {
			t.Errorf("P1203: %v nodes: %d", sizeBy(l), size)
		}
	}
}

// TestP1203Great: a whole of half a million nodes, by just so many and by one less.
func TestP1203Great(t *testing.T) {
	l := doubling(19)
	s := wholeOf(t, l, 1<<19-1)
	if len(s) != 1<<19-1 || !isRight(128, s) {
		t.Errorf("P1203: %d nodes", len(s))
	}
	if s, e := Whole(l, 1<<19-2); len(s) != 0 || e != api.ErrLong {
		t.Errorf("P1203: %d nodes, %v", len(s), e)
	}
	if x := shareOf(t, 128, s); !like(x, l) {
		t.Errorf("P1204: %d nodes", len(x))
	}
	way := chain(128)
	if s := wholeOf(t, way, 128); !like(s, way) {
		t.Errorf("P1203: %s", textOf(s))
	}
}
