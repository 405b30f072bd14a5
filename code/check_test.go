package code

import (
	"math"
	"slices"
	"testing"

	"turnpike/api"
)

// isChecked asks that Check and Size tell what they must, and change nothing.
func isChecked(t *testing.T, i api.Instr, want api.Errno) {
	t.Helper()
	m, asItWas := guarded(i.Map, 0xEEEEEEEE)
	handed := api.Instr{Op: i.Op, N: i.N, Map: m}
	size := 1 + len(i.Map)
	if want != api.OK {
		size = 0
	}
	if e := Check(handed); e != want {
		t.Fatalf("P1401: Check of %s: %v, want %v", short(i), e, want)
	}
	if n := Size(handed); n != size {
		t.Fatalf("P1401: Size of %s: %d, want %d", short(i), n, size)
	}
	if e, n := Check(handed), Size(handed); e != want || n != size {
		t.Fatalf("P3: %s: %v, %d", short(i), e, n)
	}
	if !asItWas() {
		t.Fatalf("P2: the map of %s is changed", short(i))
	}
}

func TestP1401ByHand(t *testing.T) {
	for _, x := range []struct {
		i    api.Instr
		e    api.Errno
		size int
	}{
		{api.Instr{Op: api.OExtract, N: 1}, api.OK, 1}, {api.Instr{Op: api.OExtract, N: 24}, api.OK, 1}, {api.Instr{Op: api.OExtract}, api.ErrArg, 0}, {api.Instr{Op: api.OExtract, N: 25}, api.ErrArg, 0},
		{api.Instr{Op: api.OIndex, N: 1, Map: []uint32{0xC0000000}}, api.OK, 2}, {api.Instr{Op: api.OIndex, N: 1, Map: []uint32{0x80000000}}, api.OK, 2}, {api.Instr{Op: api.OIndex, N: 1, Map: []uint32{0x40000000}}, api.ErrMap, 0}, {api.Instr{Op: api.OIndex, N: 1, Map: []uint32{0xE0000000}}, api.ErrMap, 0}, {api.Instr{Op: api.OIndex, N: 1}, api.ErrMap, 0},
		{api.Instr{Op: api.OIndex, N: 4, Map: []uint32{0xFFFF0000}}, api.OK, 2}, {api.Instr{Op: api.OIndex, N: 4, Map: []uint32{0xFFFF8000}}, api.ErrMap, 0},
		{api.Instr{Op: api.OIndex, N: 5, Map: []uint32{full}}, api.OK, 2}, {api.Instr{Op: api.OIndex, N: 5, Map: []uint32{highest, 0}}, api.ErrMap, 0},
		{api.Instr{Op: api.OIndex, N: 6, Map: []uint32{full, full}}, api.OK, 3}, {api.Instr{Op: api.OIndex, N: 6, Map: []uint32{highest, 0}}, api.OK, 3}, {api.Instr{Op: api.OIndex, N: 6, Map: []uint32{highest}}, api.ErrMap, 0}, {api.Instr{Op: api.OIndex, N: 6, Map: []uint32{0, highest}}, api.ErrMap, 0}, {api.Instr{Op: api.OIndex, N: 6, Map: []uint32{highest, 0, 0}}, api.ErrMap, 0},
		{api.Instr{Op: api.OIndex, N: 10, Map: mapOf(10)}, api.OK, 33}, {api.Instr{Op: api.OIndex, Map: []uint32{highest}}, api.ErrArg, 0}, {api.Instr{Op: api.OIndex, N: 25, Map: []uint32{highest}}, api.ErrArg, 0},
		{api.Instr{Op: api.OJump, N: 1}, api.OK, 1}, {api.Instr{Op: api.OJump, N: 1<<24 - 1}, api.OK, 1}, {api.Instr{Op: api.OJump}, api.ErrArg, 0}, {api.Instr{Op: api.OJump, N: 1 << 24}, api.ErrArg, 0},
		{api.Instr{Op: api.OReturn}, api.OK, 1}, {api.Instr{Op: api.OReturn, N: 65535}, api.OK, 1}, {api.Instr{Op: api.OReturn, N: 65536}, api.ErrArg, 0}, {api.Instr{Op: api.OReturn, N: -1}, api.ErrArg, 0},
		{api.Instr{}, api.ErrOp, 0}, {api.Instr{Op: 5, N: 1}, api.ErrOp, 0}, {api.Instr{Op: -1, N: 1}, api.ErrOp, 0}, {api.Instr{Op: math.MaxInt, N: 1}, api.ErrOp, 0}, {api.Instr{Op: math.MinInt, N: 1}, api.ErrOp, 0}, {api.Instr{Op: 256 + api.OReturn, N: 1}, api.ErrOp, 0},
	} {
		if e, size := Check(x.i), Size(x.i); e != x.e || size != x.size {
			t.Errorf("P1401: %s: %v, %d, want %v, %d", short(x.i), e, size, x.e, x.size)
		}
	}
}

func TestP1401Right(t *testing.T) {
	for _, i := range instrs() {
		isChecked(t, i, api.OK)
		if len(i.Map) == 0 {
			isChecked(t, api.Instr{Op: i.Op, N: i.N, Map: []uint32{}}, api.OK)
			isChecked(t, api.Instr{Op: i.Op, N: i.N, Map: make([]uint32, 0, 9)}, api.OK)
		}
	}
}

func TestP1401Wrong(t *testing.T) {
	for _, i := range wrongInstrs() {
		isChecked(t, i, checkBy(i))
	}
}

// TestP1401Bounds: all numbers around the bounds of each operation, by a map that is right where one is asked for.
func TestP1401Bounds(t *testing.T) {
	for op, b := range bounds {
		for _, edge := range []int{0, b[0], b[1], 24, 255, 65535, maxN} {
			for n := edge - 40; n <= edge+40; n++ {
				i := api.Instr{Op: op, N: n}
				if op == api.OIndex && 1 <= n && n <= 13 {
					i.Map = mapOf(n)
				}
				if op != api.OIndex || n < 14 || n > 24 {
					isChecked(t, i, checkBy(i))
				}
			}
		}
	}
}

// TestP1401Order: ErrOp comes ahead of ErrArg, ErrArg ahead of ErrMap.
func TestP1401Order(t *testing.T) {
	wrongMap := []uint32{1, 2, 3}
	for _, op := range noOps {
		isChecked(t, api.Instr{Op: op, N: -1, Map: wrongMap}, api.ErrOp)
		isChecked(t, api.Instr{Op: op, N: math.MaxInt, Map: wrongMap}, api.ErrOp)
		isChecked(t, api.Instr{Op: op, N: 1, Map: wrongMap}, api.ErrOp)
		isChecked(t, api.Instr{Op: op, N: -1}, api.ErrOp)
		isChecked(t, api.Instr{Op: op, N: 1}, api.ErrOp)
	}
	for op, b := range bounds {
		for _, n := range append(far, b[0]-1, b[1]+1) {
			isChecked(t, api.Instr{Op: op, N: n, Map: wrongMap}, api.ErrArg)
			isChecked(t, api.Instr{Op: op, N: n, Map: []uint32{highest}}, api.ErrArg)
			isChecked(t, api.Instr{Op: op, N: n}, api.ErrArg)
		}
		isChecked(t, api.Instr{Op: op, N: b[0], Map: wrongMap}, api.ErrMap)
		isChecked(t, api.Instr{Op: op, N: b[1], Map: wrongMap}, api.ErrMap)
	}
}

// TestP1401SmallMaps: all that the places of a map of 1 to 4 bits can be; and behind them each place by itself.
func TestP1401SmallMaps(t *testing.T) {
	for n := 1; n <= 4; n++ {
		right := 0
		for places := range uint32(1) << (1 << n) {
			w := places << (32 - 1<<n)
			if Check(api.Instr{Op: api.OIndex, N: n, Map: []uint32{w}}) == api.OK {
				right++
			}
			if e := Check(api.Instr{Op: api.OIndex, N: n, Map: []uint32{w}}); (e == api.OK) != (w >= highest) || e != api.OK && e != api.ErrMap {
				t.Fatalf("P1401: a map %08x of %d: %v", w, n, e)
			}
			for place := 1 << n; place < 32; place++ {
				if e := Check(api.Instr{Op: api.OIndex, N: n, Map: []uint32{w | highest>>place}}); e != api.ErrMap {
					t.Fatalf("P1401: a map %08x of %d: %v", w|highest>>place, n, e)
				}
			}
		}
		if want := 1 << (1<<n - 1); right != want {
			t.Errorf("P1401: %d maps of %d are right, want %d", right, n, want)
		}
	}
}

// TestP1401Maps: each place of a map by itself, and each but one; of these only place 0 must be set.
func TestP1401Maps(t *testing.T) {
	for n := 5; n <= 9; n++ {
		for place := range 1 << n {
			one := make([]uint32, 1<<n/32)
			one[place/32] = highest >> (place % 32)
			others := make([]uint32, 1<<n/32)
			for k := range others {
				others[k] = ^one[k]
			}
			wantOne, wantOthers := api.ErrMap, api.OK
			if place == 0 {
				wantOne, wantOthers = wantOthers, wantOne
			}
			isChecked(t, api.Instr{Op: api.OIndex, N: n, Map: one}, wantOne)
			isChecked(t, api.Instr{Op: api.OIndex, N: n, Map: others}, wantOthers)
			isChecked(t, api.Instr{Op: api.OIndex, N: n, Map: mapOf(n, place)}, api.OK)
		}
	}
}

// TestP1401MapsOfOthers: a map is one of its own N, and of no other one above 5; of those from 1 to 5 by its places.
func TestP1401MapsOfOthers(t *testing.T) {
	for n := 1; n <= 14; n++ {
		m := mapOf(n, 1<<n-1)
		for other := 1; other <= 24; other++ {
			want := api.ErrMap
			if other == n || n < other && other <= 5 {
				want = api.OK
			}
			isChecked(t, api.Instr{Op: api.OIndex, N: other, Map: m}, want)
		}
	}
}

// TestP1401Greatest: maps of MaxBits, and those that have a word too few or too many.
func TestP1401Greatest(t *testing.T) {
	for n := 14; n <= api.MaxBits; n++ {
		m := mapOf(n, 1<<n-1)
		isChecked(t, api.Instr{Op: api.OIndex, N: n, Map: m}, api.OK)
		if want := 1 + 1<<n/32; Size(api.Instr{Op: api.OIndex, N: n, Map: m}) != want {
			t.Errorf("P1401: %d bits are not %d words", n, want)
		}
		isChecked(t, api.Instr{Op: api.OIndex, N: n, Map: m[:len(m)-1]}, api.ErrMap)
		isChecked(t, api.Instr{Op: api.OIndex, N: n, Map: append(slices.Clone(m), 0)}, api.ErrMap)
		isChecked(t, api.Instr{Op: api.OIndex, N: n, Map: m[:1]}, api.ErrMap)
		isChecked(t, api.Instr{Op: api.OIndex, N: n}, api.ErrMap)
		m[0] = full >> 1
		isChecked(t, api.Instr{Op: api.OIndex, N: n, Map: m}, api.ErrMap)
	}
}
