package cost

import (
	"slices"
	"testing"

	"turnpike/api"
)

// costsOf are the costs of small numbers.
func costsOf(l ...uint64) []api.Cost {
	var costs []api.Cost
	for _, n := range l {
		costs = append(costs, Of(n))
	}
	return costs
}

// firstLeast is the first place of which no other holds less.
func firstLeast(l []api.Cost) int {
	return slices.IndexFunc(l, func(c api.Cost) bool {
		return !slices.ContainsFunc(l, func(other api.Cost) bool {
			return number(other).Cmp(number(c)) < 0
		})
	})
}

func TestP902LeastOfNone(t *testing.T) {
	if at := Least(); at != -1 {
		t.Errorf("Least() = %d", at)
	}
	if at := Least(nil...); at != -1 {
		t.Errorf("Least of no row = %d", at)
	}
	if at := Least([]api.Cost{}...); at != -1 {
		t.Errorf("Least of an empty row = %d", at)
	}
	if at := Least(costsOf(1, 2, 3)[:0]...); at != -1 {
		t.Errorf("Least of a row with spare room alone = %d", at)
	}
}

func TestP902LeastOfOne(t *testing.T) {
	for _, a := range samples() {
		if at := Least(a); at != 0 {
			t.Errorf("Least(%v) = %d", a, at)
		}
	}
}

func TestP902LeastOfTwo(t *testing.T) {
	for _, a := range samples() {
		for _, b := range samples() {
			want := 0
			if number(b).Cmp(number(a)) < 0 {
				want = 1
			}
			if at := Least(a, b); at != want {
				t.Fatalf("Least(%v, %v) = %d", a, b, at)
			}
		}
	}
}

func TestP902LeastIsTheFirstOfSeveral(t *testing.T) {
	for _, x := range []struct {
		row  []api.Cost
		want int
	}{
		{costsOf(3, 1, 1, 2), 1},
		{costsOf(1, 1, 1), 0},
		{costsOf(0, 0), 0},
		{costsOf(2, 1, 2, 1, 1), 1},
		{costsOf(9, 8, 7, 7), 2},
		{costsOf(1, 2, 3, 1), 0},
		{costsOf(5, 4, 3, 2, 1, 0), 5},
		{costsOf(0, 1, 2, 3), 0},
		{[]api.Cost{ones, ones, ones}, 0},
		{[]api.Cost{ones, {most, most, most - 1}, ones}, 1},
		{[]api.Cost{{1, 0, 0}, {0, most, most}, {0, most, most}}, 1},
	} {
		if at := Least(x.row...); at != x.want {
			t.Errorf("Least of %v = %d, want %d", x.row, at, x.want)
		}
	}
	if at := Least(Of(3), Of(1), Of(1), Of(2)); at != 1 {
		t.Errorf("Least of four by themselves = %d", at)
	}
}

// TestP902LeastOfAllSmallRows goes over every row of at most five numbers of 0 to 2, in each of a cost's three parts.
func TestP902LeastOfAllSmallRows(t *testing.T) {
	var try func(row []api.Cost, part int)
	try = func(row []api.Cost, part int) {
		if at, want := Least(row...), firstLeast(row); at != want {
			t.Fatalf("Least of %v = %d, want %d", row, at, want)
		}
		if len(row) == 5 {
			return
		}
		for n := range uint64(3) {
			var c api.Cost
			c[part] = n
			try(append(slices.Clone(row), c), part)
		}
	}
	for part := range 3 {
		try(nil, part)
	}
}

func TestP902LeastOfLongRows(t *testing.T) {
	const size = 1 << 16
	row := slices.Repeat([]api.Cost{ones}, size)
	for _, at := range []int{size - 1, size / 2, 255, 1, 0} {
		row[at] = api.Cost{most, most, most - 1}
		if got := Least(row...); got != at {
			t.Errorf("the least one at %d: %d", at, got)
		}
	}
	if at, want := Least(samples()...), firstLeast(samples()); at != want {
		t.Errorf("Least of all samples = %d, want %d", at, want)
	}
	all := samples()
	slices.Reverse(all)
	if at, want := Least(all...), firstLeast(all); at != want {
		t.Errorf("Least of all samples, turned round = %d, want %d", at, want)
	}
}

func TestP2LeastChangesNothing(t *testing.T) {
	for from := range 4 {
		for to := from; to <= 6; to++ {
			room := costsOf(3, 1, 4, 1, 5, 9, 2, 6)
			Least(room[from:to]...)
			if !slices.Equal(room, costsOf(3, 1, 4, 1, 5, 9, 2, 6)) {
				t.Fatalf("Least of %d to %d made %v", from, to, room)
			}
		}
	}
}
