package emit

import (
	"math"
	"slices"
	"testing"

	"turnpike/api"
	"turnpike/mtrie"
)

// orderOf asks for what Order tells of a right list.
func orderOf(t *testing.T, family int, l []api.Node) []int {
	t.Helper()
	order, e := Order(family, l)
	if e != api.OK {
		t.Fatalf("P1602: Order of %s by %d: %v", textOf(l), family, e)
	}
	return order
}

// placesOf asks for what Places tells of a list that can be laid.
func placesOf(t *testing.T, family int, l []api.Node) ([]int, int) {
	t.Helper()
	places, words, e := Places(family, l)
	if e != api.OK {
		t.Fatalf("P1602: Places of %s by %d: %v", textOf(l), family, e)
	}
	return places, words
}

func TestP1602ByHand(t *testing.T) {
	for _, x := range []struct {
		text   string
		order  []int
		places []int
		words  int
	}{
		// One node.
		{"0 0=9", []int{0}, []int{0}, 1}, {"1 0=5 1=0", []int{0}, []int{0}, 5}, {"6 0=1", []int{0}, []int{0}, 5}, {"24 0=1 9=2", []int{0}, []int{0}, 524292},
		// Two.
		{"1 0>1; 1 0=1", []int{0, 1}, []int{0, 4}, 8}, {"1 0=1 1>1; 6 0=1 1=2 2=3", []int{0, 1}, []int{0, 5}, 12},
		// The first run's node comes first, wherever it stands.
		{"1 0>1 1>2; 1 0=5; 2 0=6 1=7", []int{0, 1, 2}, []int{0, 5, 9}, 14}, {"1 0>2 1>1; 1 0=5; 2 0=6 1=7", []int{0, 2, 1}, []int{0, 10, 5}, 14},
		{"2 0>3 1>2 2>1; 1 0=1; 1 0=2; 1 0=3", []int{0, 3, 2, 1}, []int{0, 14, 10, 6}, 18},
		// What lies below a node follows it, ahead of what the next run leads to.
		{"1 0>1 1>2; 1 0>4 1>3; 1 0=0; 1 0=2 1=3; 1 0=4 1=5", []int{0, 1, 4, 3, 2}, []int{0, 5, 20, 15, 10}, 24},
		{"1 0>2 1>1; 1 0>3; 1 0>4; 1 0=1; 1 0=2", []int{0, 2, 4, 1, 3}, []int{0, 13, 5, 17, 9}, 21},
		// Led to more than once: behind all that lead there.
		{"2 0>1 1=3 2>1; 1 0=1", []int{0, 1}, []int{0, 6}, 10},
		{"1 0>2 1>1; 1 0>2 1=1; 1 0=3", []int{0, 1, 2}, []int{0, 5, 10}, 14},
		{"1 0>1 1>2; 1 0>3 1=1; 1 0>3 1=2; 1 0=4", []int{0, 1, 2, 3}, []int{0, 5, 10, 15}, 19},
		{"1 0>2 1>1; 1 0>3 1=1; 1 0>3 1=2; 1 0=4", []int{0, 2, 1, 3}, []int{0, 10, 5, 15}, 19},
		{"2 0>3 1>1 2>2; 1 0>3; 1 0=1; 1 0=4 1=9", []int{0, 1, 3, 2}, []int{0, 6, 15, 10}, 19},
		{"2 0>3 1=0 2>1; 1 0>2 1>3; 1 0=1 1=0; 1 0=2 1=0", []int{0, 1, 2, 3}, []int{0, 6, 11, 16}, 21},
		{"2 0>4 1>3 2>2 3>1; 1 0>4 1=1; 1 0>4 1=2; 1 0>4 1=3; 1 0=9", []int{0, 3, 2, 1, 4}, []int{0, 17, 12, 7, 22}, 26},
		// The last run's way comes to it first.
		{"1 0>2 1>1; 1 0=1 1>3; 1 0=2 1>3; 1 0=3", []int{0, 2, 1, 3}, []int{0, 10, 5, 15}, 19},
		// Equal ones stay two.
		{"1 0>1 1>2; 1 0=5 1=6; 1 0=5 1=6", []int{0, 1, 2}, []int{0, 5, 10}, 15},
		// Next hops are no nodes' numbers.
		{"2 0=2 1>1 2=1 3>2; 1 0=2; 1 0=1", []int{0, 1, 2}, []int{0, 7, 11}, 15},
		{"1 0=1 1>2; 1 0>2; 1 0=1", nil, nil, 0},
	} {
		for _, family := range families {
			l := nodesOf(x.text)
			if x.order == nil {
				if order, e := Order(family, l); len(order) != 0 || e != api.ErrUnused {
					t.Errorf("P1602: %s: %v, %v", x.text, order, e)
				}
				continue
			}
			if order := orderOf(t, family, l); !slices.Equal(order, x.order) {
				t.Errorf("P1602: the order of %s by %d: %v, want %v", x.text, family, order, x.order)
			}
			if places, words := placesOf(t, family, l); !slices.Equal(places, x.places) || words != x.words {
				t.Errorf("P1602: the places of %s by %d: %v, %d, want %v, %d", x.text, family, places, words, x.places, x.words)
			}
			if order := orderBy(l); !slices.Equal(order, x.order) {
				t.Errorf("%s: the order that the tests know is %v", x.text, order)
			}
		}
	}
}

// isOrdered asks that Order and Places tell what the chapter says of a list; it answers the error of Places.
func isOrdered(t *testing.T, family int, l []api.Node) api.Errno {
	t.Helper()
	_, want := mtrie.Check(family, l)
	order, e := Order(family, l)
	if e != want || e != api.OK && len(order) != 0 || e == api.OK && !slices.Equal(order, orderBy(l)) {
		t.Fatalf("P1602: Order of %s by %d: %v, %v, want %v", textOf(l), family, order, e, want)
	}
	known, all, want := placesBy(family, l)
	places, words, e := Places(family, l)
	if e != want || words != all || len(places) != len(known) {
		t.Fatalf("P1602: Places of %s by %d: %v, %d, %v, want %v, %d, %v", textOf(l), family, places, words, e, known, all, want)
	}
	for number, place := range places {
		if place != known[number] {
			t.Fatalf("P1602: node %d of %s by %d begins at %d, want %d", number, textOf(l), family, place, known[number])
		}
	}
	return want
}

// TestP1602SmallLists: all lists of up to four nodes of 1 bit, and some of five.
func TestP1602SmallLists(t *testing.T) {
	count := 0
	for size := 1; size <= 4; size++ {
		for l := range smallLists(size) {
			count++
			isOrdered(t, families[count%2], l)
		}
	}
	next := counter()
	for l := range smallLists(5) {
		if upTo(next, 16) == 0 {
			isOrdered(t, families[upTo(next, 2)], l)
		}
	}
	if count < 1000 {
		t.Errorf("only %d lists", count)
	}
}

// TestP1602AsTheChapterSays: right lists of all kinds; what is right for 32 is laid alike by 128.
func TestP1602AsTheChapterSays(t *testing.T) {
	for _, family := range families {
		for _, l := range samples(family) {
			isOrdered(t, family, l)
			isOrdered(t, 128, l)
		}
	}
}

func TestP1602Wrong(t *testing.T) {
	try := func(text string, family int, want api.Errno) {
		l := nodesOf(text)
		if order, e := Order(family, l); len(order) != 0 || e != want {
			t.Errorf("P1602: Order of %s by %d: %v, %v, want %v", text, family, order, e, want)
		}
		if places, words, e := Places(family, l); len(places) != 0 || words != 0 || e != want {
			t.Errorf("P1602: Places of %s by %d: %v, %d, %v, want %v", text, family, places, words, e, want)
		}
	}
	for _, x := range wrong {
		for family, want := range map[int]api.Errno{32: x.four, 128: x.six} {
			if want != api.OK {
				try(x.text, family, want)
			}
		}
		for _, family := range noFamilies {
			try(x.text, family, api.ErrFamily)
		}
	}
	for _, family := range noFamilies {
		try("0 0=9", family, api.ErrFamily)
		try("1 0>1; 1 0=1", family, api.ErrFamily)
	}
}

// TestP1602TooWide: a node of more than MaxBits bits has its place in the order, but none in code.
func TestP1602TooWide(t *testing.T) {
	for _, l := range tooWide() {
		if order := orderOf(t, 128, l); !slices.Equal(order, orderBy(l)) {
			t.Errorf("P1602: the order of %s: %v", textOf(l), order)
		}
		if places, words, e := Places(128, l); len(places) != 0 || words != 0 || e != api.ErrSize {
			t.Errorf("P1602: the places of %s: %v, %d, %v", textOf(l), places, words, e)
		}
	}
	for bits := 1; bits <= 128; bits++ {
		for _, family := range families {
			one := api.Node{Bits: bits, Runs: []api.Run{{N: 1}}}
			isOrdered(t, family, []api.Node{one})
			for _, more := range []int{1, 8, 24, 25} {
				isOrdered(t, family, []api.Node{{Bits: more, Runs: []api.Run{{Kid: true, N: 1}}}, one})
			}
		}
	}
}

// TestP1602SpoiltAsTheChapterSays: of lists without a pattern, most of them not right, the errors.
func TestP1602SpoiltAsTheChapterSays(t *testing.T) {
	next := counter()
	seen := map[api.Errno]int{}
	for i := range 20000 {
		l := someList(next, 32, 24)
		for range 1 + i%2 {
			if len(l) > 0 && !slices.ContainsFunc(l, func(n api.Node) bool { return len(n.Runs) == 0 }) {
				l = spoil(next, l)
			}
		}
		for _, family := range []int{32, 128, 64} {
			seen[isOrdered(t, family, l)]++
		}
	}
	for _, e := range []api.Errno{api.OK, api.ErrNone, api.ErrFamily, api.ErrArg, api.ErrOrder, api.ErrHop, api.ErrJump, api.ErrUnused, api.ErrBits, api.ErrSize} {
		if seen[e] < 100 {
			t.Errorf("only %d lists of %v", seen[e], e)
		}
	}
}

// TestP1602Great: more words than an image has, and more than four bytes hold: Places tells them all the same.
func TestP1602Great(t *testing.T) {
	const kids = 1 << 14
	l := fan(14, kids, api.Node{Bits: 24, Runs: []api.Run{{N: 1}}})
	places, words := placesOf(t, 128, l)
	head, each := 2+1<<14/32+kids, 2+1<<24/32+1
	for i, place := range places {
		if i > 0 && place != head+(i-1)*each {
			t.Fatalf("P1602: node %d begins at %d", i, place)
		}
	}
	if words != head+kids*each || words <= math.MaxUint32 {
		t.Errorf("P1602: %d words", words)
	}
}

// TestP1602Many: a million nodes, which all lead on to others that are led to often.
func TestP1602Many(t *testing.T) {
	next := counter()
	const wide, levels = 1 << 14, 64
	l := []api.Node{{Bits: 14}}
	for i := range wide {
		l[0].Runs = append(l[0].Runs, api.Run{From: api.Word{Lo: uint64(i)}, Kid: true, N: 1 + (i*5)%wide})
	}
	for level := range levels {
		for i := range wide {
			n := api.Node{Bits: 1, Runs: []api.Run{{N: 1}}}
			if level < levels-1 {
				down := 1 + (level+1)*wide
				n = joined(api.Node{Bits: 1, Runs: []api.Run{{Kid: true, N: down + i}, {From: api.Word{Lo: 1}, Kid: true, N: down + upTo(next, wide)}}})
			}
			l = append(l, n)
		}
	}
	if order := orderOf(t, 128, l); !slices.Equal(order, orderBy(l)) {
		t.Error("P1602: many nodes are in another order")
	}
	places, words := placesOf(t, 128, l)
	isGapless(t, l, places, words)
}
