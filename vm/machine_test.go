package vm

import (
	"bytes"
	"slices"
	"testing"

	"turnpike/api"
)

// stepped does steps up to the end: the places at which a machine stood. No code here has so many words that it would be left early.
func stepped(m *Machine) []int {
	l := []int{m.Place()}
	for len(l) < 1<<21 && m.Step() {
		l = append(l, m.Place())
	}
	return l
}

func TestP1902ByHand(t *testing.T) {
	for _, x := range []struct {
		text   string
		w      uint32
		places []int
		end    api.Result
	}{
		{"", 0, []int{0}, api.Result{Err: api.ErrBounds}},
		{"r9", 0, []int{0, 0}, api.Result{Hop: 9, Steps: 1}},
		{"#00000000", 0, []int{0}, api.Result{Err: api.ErrOp}},
		{"j1 #00000000", 0, []int{0, 1}, api.Result{Err: api.ErrOp, Steps: 1}},
		{"j3 r1 r2 r3", 0, []int{0, 3, 3}, api.Result{Hop: 3, Steps: 2}},
		{"j5", 0, []int{0, 5}, api.Result{Err: api.ErrBounds, Steps: 1}},
		{"x1 r7", 0, []int{0, 1, 1}, api.Result{Hop: 7, Steps: 2, Extracts: 1, Bits: 1}},
		{"x24 x9", 0, []int{0, 1}, api.Result{Err: api.ErrBits, Steps: 1, Extracts: 1, Bits: 24}},
		{"x1 i1:c0000000 r5 r6", 0, []int{0, 1, 3, 3}, api.Result{Hop: 5, Steps: 3, Extracts: 1, Indexes: 1, Bits: 1}},
		{"x1 i1:c0000000 r5 r6", 0x80000000, []int{0, 1, 4, 4}, api.Result{Hop: 6, Steps: 3, Extracts: 1, Indexes: 1, Bits: 1}},
		{"x1 i1:80000000 r5 r6", 0x80000000, []int{0, 1, 3, 3}, api.Result{Hop: 5, Steps: 3, Extracts: 1, Indexes: 1, Bits: 1}},
		{"x1 i2:80000000 r5 r6", 0, []int{0, 1}, api.Result{Err: api.ErrMap, Steps: 1, Extracts: 1, Bits: 1}},
		{"x6 i6:80000000:00000001 r5 r6", 0xffffffff, []int{0, 1, 5, 5}, api.Result{Hop: 6, Steps: 3, Extracts: 1, Indexes: 1, Bits: 6}},
		{"x6 i6:ffffffff:ffffffff r5 r6", 0xffffffff, []int{0, 1, 67}, api.Result{Err: api.ErrBounds, Steps: 2, Extracts: 1, Indexes: 1, Bits: 6}},
		{"x1 i1:c0000000 j2 r7 x2 i2:a0000000 r1 r2", 0x60000000, []int{0, 1, 3, 5, 6, 9, 9}, api.Result{Hop: 2, Steps: 6, Extracts: 2, Indexes: 2, Bits: 3}},
	} {
		m := New(32, codeOf(x.text), address(x.w))
		if l := stepped(m); !slices.Equal(l, x.places) || m.Result() != x.end {
			t.Errorf("P1902: %s: %v, %+v; want %v, %+v", x.text, l, m.Result(), x.places, x.end)
		}
	}
}

// TestP1902Midway: what is told so far; Hop and Err only at the end.
func TestP1902Midway(t *testing.T) {
	m := New(32, codeOf("x1 i1:c0000000 j1 x2 r7"), api.Word{})
	for _, want := range []api.Result{{}, {Steps: 1, Extracts: 1, Bits: 1}, {Steps: 2, Extracts: 1, Indexes: 1, Bits: 1}, {Steps: 3, Extracts: 1, Indexes: 1, Bits: 1}, {Steps: 4, Extracts: 2, Indexes: 1, Bits: 3}, {Hop: 7, Steps: 5, Extracts: 2, Indexes: 1, Bits: 3}} {
		for range 3 {
			if r := m.Result(); r != want {
				t.Errorf("P1902: %+v, want %+v", r, want)
			}
		}
		if more := want.Hop == 0; m.Step() != more {
			t.Errorf("P1902: behind %+v Step tells %v", want, !more)
		}
	}
	m = New(32, codeOf("x1"), api.Word{})
	m.Step()
	if r := m.Result(); r.Err != api.OK {
		t.Errorf("P1902: the error is told ahead of the step that meets it: %+v", r)
	}
	if m.Step() || m.Result().Err != api.ErrBounds {
		t.Errorf("P1902: %+v", m.Result())
	}
}

// TestP1902Refused: the run of a machine that has ended already, by both errors.
func TestP1902Refused(t *testing.T) {
	for _, x := range []struct {
		family int
		w      api.Word
		e      api.Errno
	}{
		{3, api.Word{}, api.ErrFamily}, {64, api.Word{Lo: 1}, api.ErrFamily}, {32, api.Word{Hi: 1 << 31}, api.ErrWide}, {32, api.Word{Lo: 1}, api.ErrWide},
	} {
		for _, b := range [][]byte{nil, codeOf("r9"), codeOf("#00000000"), codeOf("j1 r9"), codeOf("x1 i1:80000000 r1")} {
			m := New(x.family, b, x.w)
			for range 4 {
				if r := m.Result(); r != (api.Result{Err: x.e}) || m.Place() != 0 || m.Step() {
					t.Errorf("P1902: %d, %x: %+v at %d", x.family, x.w, r, m.Place())
				}
			}
		}
	}
}

// TestP1902AgainstRun: behind k steps a machine tells what Run tells with k as fuel, but that its run goes on.
func TestP1902AgainstRun(t *testing.T) {
	next := counter()
	for _, b := range samples() {
		family := one(next, families...)
		w := someAddress(next, family)
		m := New(family, b, w)
		for k := 0; ; k++ {
			want := Run(family, b, w, k)
			if want.Err == api.ErrFuel {
				want.Err = api.OK
			}
			if r := m.Result(); r != want || r.Steps != k {
				t.Fatalf("P1902: %s for %x: behind %d steps %+v, want %+v", short(b), w, k, r, want)
			}
			if !m.Step() {
				break
			}
		}
		if r := Run(family, b, w, m.Result().Steps+1); r != m.Result() {
			t.Fatalf("P1902: %s for %x: at the end %+v, want %+v", short(b), w, m.Result(), r)
		}
	}
}

// TestP1902TwoMachines: of one code, beside each other, in whatever order their steps are done.
func TestP1902TwoMachines(t *testing.T) {
	next := counter()
	for _, b := range samples() {
		var machines []*Machine
		var lives []life
		for range 3 {
			family := one(next, 32, 128, 128)
			w := someAddress(next, family)
			machines, lives = append(machines, New(family, b, w)), append(lives, lifeOf(family, b, w))
		}
		done := make([]int, len(machines))
		for range 40 {
			k := upTo(next, len(machines))
			more := done[k]+1 < len(lives[k].at)
			if machines[k].Step() != more {
				t.Fatalf("P1902: %s: Step of machine %d tells %v", short(b), k, !more)
			}
			if more {
				done[k]++
			}
			for i, m := range machines {
				if m.Place() != lives[i].at[done[i]] || m.Result().Steps != done[i] {
					t.Fatalf("P1902: %s: machine %d: %d, %+v", short(b), i, m.Place(), m.Result())
				}
			}
		}
		for i, m := range machines {
			if stepped(m); m.Result() != lives[i].end {
				t.Fatalf("P1902: %s: machine %d: %+v, want %+v", short(b), i, m.Result(), lives[i].end)
			}
		}
	}
}

// TestP1902WrittenOver: what is written into code behind New, at once and between steps, changes nothing; nor does what is laid behind it.
func TestP1902WrittenOver(t *testing.T) {
	next := counter()
	for _, c := range samples() {
		family := one(next, families...)
		w := someAddress(next, family)
		l := lifeOf(family, c, w)
		for _, word := range []string{"r1", "#00000000", "j1"} {
			b := append(make([]byte, 0, len(c)+8), c...)
			m := New(family, b, w)
			copy(b[:cap(b)], bytes.Repeat(codeOf(word), cap(b)/4+1))
			if places := stepped(m); !slices.Equal(places, l.at) || m.Result() != l.end {
				t.Fatalf("P1902: %s written over: %v, %+v; want %v, %+v", short(c), places, m.Result(), l.at, l.end)
			}
		}
		b := slices.Clone(c)
		m := New(family, b, w)
		for k := range l.at[1:] {
			if !m.Step() || m.Place() != l.at[k+1] {
				t.Fatalf("P1902: %s written over behind %d steps: %d", short(c), k, m.Place())
			}
			for i := range b {
				b[i] = byte(next() >> 11)
			}
		}
		if m.Step() || m.Result() != l.end {
			t.Fatalf("P1902: %s written over: %+v, want %+v", short(c), m.Result(), l.end)
		}
	}
}
