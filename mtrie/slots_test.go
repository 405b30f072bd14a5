package mtrie

import (
	"math"
	"math/big"
	"slices"
	"testing"

	"turnpike/api"
	"turnpike/cost"
)

// isSlots asks that Slots is the sum of 2^Bits.
func isSlots(t *testing.T, l []api.Node) {
	t.Helper()
	want := new(big.Int)
	for _, n := range l {
		want.Add(want, power(n.Bits))
	}
	if c, e := Slots(l); e != api.OK || number(c).Cmp(want) != 0 {
		t.Fatalf("P1104: Slots of %v: %v, %v, want %v", l, c, e, want)
	}
}

func TestP1104ByHand(t *testing.T) {
	for _, x := range []struct {
		bits []int
		want api.Cost
	}{
		{nil, cost.Of(0)}, {[]int{0}, cost.Of(1)}, {[]int{0, 0, 0}, cost.Of(3)}, {[]int{1}, cost.Of(2)}, {[]int{1, 31}, cost.Of(1<<31 + 2)}, {[]int{63, 63}, api.Cost{0, 1, 0}}, {[]int{64}, api.Cost{0, 1, 0}},
		{[]int{127}, api.Cost{0, 1 << 63, 0}}, {[]int{127, 127}, api.Cost{1, 0, 0}}, {[]int{128}, api.Cost{1, 0, 0}}, {[]int{128, 0}, api.Cost{1, 0, 1}}, {[]int{128, 64, 128, 3}, api.Cost{2, 1, 8}},
	} {
		var l []api.Node
		for _, bits := range x.bits {
			l = append(l, api.Node{Bits: bits})
		}
		if c, e := Slots(l); c != x.want || e != api.OK {
			t.Errorf("P1104: Slots of %v: %v, %v, want %v", x.bits, c, e, x.want)
		}
	}
}

// TestP1104: of any nodes, whatever their runs say.
func TestP1104(t *testing.T) {
	next := counter()
	var l []api.Node
	for bits := range 129 {
		l = append(l, api.Node{Bits: bits, Runs: []api.Run{markRun}})
		isSlots(t, l)
		isSlots(t, l[bits:])
	}
	for range 300 {
		l = nil
		for range next() % 40 {
			l = append(l, api.Node{Bits: int(next() % 129), Runs: slices.Repeat([]api.Run{markRun}, int(next()%3))})
		}
		isSlots(t, l)
	}
	isSlots(t, slices.Repeat([]api.Node{{Bits: 128}, {Bits: 127}}, 100000))
}

// TestP1104NoBits: of one node, and of one among others.
func TestP1104NoBits(t *testing.T) {
	for _, bits := range noBits {
		wrong := api.Node{Bits: bits, Runs: []api.Run{{}}}
		for _, l := range [][]api.Node{{wrong}, {{Bits: 1}, wrong}, {wrong, {Bits: 128}}, {{Bits: 128}, {Bits: 3}, wrong, {}}, {wrong, wrong}} {
			if c, e := Slots(l); c != (api.Cost{}) || e != api.ErrArg {
				t.Errorf("P1104: Slots of %v: %v, %v", l, c, e)
			}
		}
	}
}

// TestP1104Wide: no list at hand has so many nodes that their slots do not fit: so this asks with how many there are of each kind.
func TestP1104Wide(t *testing.T) {
	var most byBits
	most[128] = math.MaxUint64
	for bits := range 128 {
		most[bits]++
	}
	most[0]++
	if c, e := most.slots(); c != (api.Cost{}) || e != api.ErrWide {
		t.Errorf("P1104: 2^192 slots: %v, %v", c, e)
	}
	most[0]--
	if c, e := most.slots(); c != (api.Cost{math.MaxUint64, math.MaxUint64, math.MaxUint64}) || e != api.OK {
		t.Errorf("P1104: 2^192 - 1 slots: %v, %v", c, e)
	}
	for bits := range 129 {
		more := most
		more[bits]++
		if bits == 128 {
			more = byBits{127: math.MaxUint64, 128: math.MaxUint64}
		}
		if c, e := more.slots(); c != (api.Cost{}) || e != api.ErrWide {
			t.Errorf("P1104: with one node of %d bits more: %v, %v", bits, c, e)
		}
	}
	if c, e := (byBits{128: math.MaxUint64}).slots(); c != (api.Cost{math.MaxUint64, 0, 0}) || e != api.OK {
		t.Errorf("P1104: %v, %v", c, e)
	}
	if c, e := (byBits{127: 2, 128: math.MaxUint64}).slots(); c != (api.Cost{}) || e != api.ErrWide {
		t.Errorf("P1104: 2^192 slots: %v, %v", c, e)
	}
}
