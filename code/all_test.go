package code

import (
	"bytes"
	"iter"
	"slices"
	"testing"

	"turnpike/api"
)

// placed is an instruction and the word at which it begins.
type placed struct {
	at int
	i  api.Instr
}

// allBy is what All must go over.
func allBy(b []byte) []placed {
	var l []placed
	at := 0
	for {
		i, size, e := decodeBy(b, at)
		if e != api.OK {
			return l
		}
		l = append(l, placed{at, i})
		at += size
	}
}

// collect is what a sequence goes over, up to so many.
func collect(s iter.Seq2[int, api.Instr], most int) []placed {
	var l []placed
	if most == 0 {
		return l
	}
	for at, i := range s {
		l = append(l, placed{at, i})
		if len(l) == most {
			break
		}
	}
	return l
}

func samePlaced(a, b []placed) bool {
	return slices.EqualFunc(a, b, func(x, y placed) bool { return x.at == y.at && sameInstr(x.i, y.i) })
}

// goesOver asks that All goes over what it must, also again, left early, and within itself.
func goesOver(t *testing.T, b []byte) []placed {
	t.Helper()
	want := allBy(b)
	handed, asItWas := guarded(b, 0x80)
	s := All(handed)
	for range 2 {
		if got := collect(s, -1); !samePlaced(got, want) {
			t.Fatalf("P1404: %x: %v, want %v", b[:min(len(b), 60)], got, want)
		}
		for most := range min(len(want), 6) {
			if got := collect(s, most); !samePlaced(got, want[:most]) {
				t.Fatalf("P6: %x left behind %d: %v", b[:min(len(b), 60)], most, got)
			}
		}
	}
	if !asItWas() {
		t.Fatalf("P2: %x is changed", b[:min(len(b), 60)])
	}
	return want
}

// rows are codes: of no bytes, of one instruction each, and of several, also such as end within one or have words that are none.
func rows() [][]byte {
	l := [][]byte{nil, {}, {4}, {4, 0, 0}, {0, 0, 0, 0}, {5, 0, 0, 0}, {255, 255, 255, 255}, unhex("01000001 02000001c0000000 04000005 09090909 04000000"), unhex("01000001 02000001c0000000 04000005 03000002")}
	some := instrs()
	for _, i := range some {
		l = append(l, bytesBy(i))
	}
	next := counter()
	for k := range 600 {
		var b []byte
		for range upTo(next, 12) {
			i := some[upTo(next, len(some))]
			if len(i.Map) < 20 {
				b = append(b, bytesBy(i)...)
			}
		}
		if k%2 == 0 && len(b) > 0 {
			b = b[:upTo(next, len(b))]
		}
		if k%3 == 0 && len(b) > 0 {
			b[upTo(next, len(b))] ^= 1 << upTo(next, 8)
		}
		l = append(l, b)
	}
	return l
}

func TestP1404ByHand(t *testing.T) {
	for _, x := range []struct {
		b  string
		at []int
	}{
		{"", nil}, {"04", nil}, {"00000000", nil}, {"00000000 04000000", nil}, {"04000009", []int{0}}, {"04000009 0400", []int{0}}, {"04000009 00000000 04000009", []int{0}}, {"04000009 04000009 04000009", []int{0, 1, 2}},
		{"01000001 02000001c0000000 04000005 09090909 04000000", []int{0, 1, 3}}, {"02000006c0000000c0000000 03000001 0200000580000000", []int{0, 3, 4}}, {"02000006 04000001 04000001 04000001", nil}, {"0200000584000001 04000001", []int{0, 2}}, {"02000006 84000001 04000001 04000001", []int{0, 3}},
		{"04000001 02000006 80000000", []int{0}}, {"04000001 02000001 20000000 04000001", []int{0}}, {"04000001 01000019 04000001", []int{0}}, {"03000001 03000000", []int{0}},
	} {
		var at []int
		for place, i := range All(unhex(x.b)) {
			at = append(at, place)
			if want, _, e := decodeBy(unhex(x.b), place); !sameInstr(i, want) || e != api.OK {
				t.Errorf("P1404: %s at %d: %s", x.b, place, short(i))
			}
		}
		if !slices.Equal(at, x.at) {
			t.Errorf("P1404: %s: %v, want %v", x.b, at, x.at)
		}
	}
}

func TestP1404Rows(t *testing.T) {
	most := 0
	for _, b := range rows() {
		most = max(most, len(goesOver(t, b)))
	}
	if most < 9 {
		t.Errorf("only %d instructions", most)
	}
}

// TestP1404RefusedAnywhere: All ends at the first instruction that Decode refuses, whichever it is and why.
func TestP1404RefusedAnywhere(t *testing.T) {
	right := api.Instr{Op: api.OIndex, N: 6, Map: mapOf(6, 63)}
	for _, wrong := range []string{"00000000", "05000000", "01000000", "01010001", "03000000", "04010000", "0200000100000000", "02000018ffffffff"} {
		for ahead := range 5 {
			b := slices.Concat(bytes.Repeat(bytesBy(right), ahead), unhex(wrong), bytesBy(right))
			l := goesOver(t, b)
			if len(l) != ahead {
				t.Errorf("P1404: %d ahead of %s: %v", ahead, wrong, l)
			}
			for k, x := range l {
				if x.at != 3*k || !sameInstr(x.i, right) {
					t.Errorf("P1404: %d at %d: %s", k, x.at, short(x.i))
				}
			}
		}
	}
}

// TestP6Within: a sequence within itself, each to its end.
func TestP6Within(t *testing.T) {
	for _, b := range rows()[:60] {
		want := allBy(b)
		s := All(b)
		k := 0
		for at, i := range s {
			if at != want[k].at || !sameInstr(i, want[k].i) {
				t.Fatalf("P6: %x: %d, %s", b, at, short(i))
			}
			k++
			if got := collect(s, -1); !samePlaced(got, want) {
				t.Fatalf("P6: %x within itself: %v", b, got)
			}
			if got := collect(s, k); !samePlaced(got, want[:k]) {
				t.Fatalf("P6: %x within itself, left early: %v", b, got)
			}
		}
		if k != len(want) {
			t.Fatalf("P6: %x: %d of %d", b, k, len(want))
		}
	}
}

// TestP6TwoAtOnce: two that go over one sequence, step by step, the one ahead of the other.
func TestP6TwoAtOnce(t *testing.T) {
	b := unhex("01000001 02000001c0000000 04000005 03000002 02000006c0000000c0000000 04000001")
	want := allBy(b)
	s := All(b)
	first, stopFirst := iter.Pull2(s)
	defer stopFirst()
	second, stopSecond := iter.Pull2(s)
	defer stopSecond()
	first()
	for k := 1; k <= len(want); k++ {
		at, i, ok := first()
		if ok != (k < len(want)) || ok && (at != want[k].at || !sameInstr(i, want[k].i)) {
			t.Fatalf("P6: the one ahead: %d, %s, %v", at, short(i), ok)
		}
		at, i, ok = second()
		if !ok || at != want[k-1].at || !sameInstr(i, want[k-1].i) {
			t.Fatalf("P6: the one behind: %d, %s, %v", at, short(i), ok)
		}
	}
}

// TestP6AsItWas: a sequence goes over the bytes as they were when it was made, whatever becomes of them, ahead of the walk or within it.
func TestP6AsItWas(t *testing.T) {
	for _, row := range rows() {
		want := allBy(row)
		b := slices.Clone(row)
		s := All(b)
		overwrite(b, 4)
		if got := collect(s, -1); !samePlaced(got, want) {
			t.Fatalf("P6: %x, changed ahead of the walk: %v", row[:min(len(row), 60)], got)
		}
		b = slices.Clone(row)
		var got []placed
		for at, i := range All(b) {
			overwrite(b, 0)
			got = append(got, placed{at, i})
		}
		if !samePlaced(got, want) {
			t.Fatalf("P6: %x, changed within the walk: %v", row[:min(len(row), 60)], got)
		}
	}
}

// TestP2MapsOfAll: the maps that All tells are the caller's own: what is written into them is to be seen neither in the bytes nor in other maps, nor by a later walk.
func TestP2MapsOfAll(t *testing.T) {
	for _, row := range rows() {
		want := allBy(row)
		b, asItWas := guarded(row, 0x80)
		s := All(b)
		for range 2 {
			l := collect(s, -1)
			for k := range l {
				if !sameInstr(l[k].i, want[k].i) {
					t.Fatalf("P2: %x: %d, %s", row[:min(len(row), 60)], k, short(l[k].i))
				}
				overwrite(l[k].i.Map, 0xDDDDDDDD)
			}
			if got := collect(s, -1); !samePlaced(got, want) || !asItWas() {
				t.Fatalf("P2: %x: a map is no new memory", row[:min(len(row), 60)])
			}
			for _, i := range s {
				overwrite(i.Map, 0xDDDDDDDD)
			}
		}
	}
}

// TestP1404Long: very many instructions, and a map of MaxBits among them.
func TestP1404Long(t *testing.T) {
	great := api.Instr{Op: api.OIndex, N: api.MaxBits, Map: mapOf(api.MaxBits, 1, 1<<24-1)}
	b, e := Encode(bytes.Repeat([]byte{4, 0, 0, 9}, 100000), great)
	if e != api.OK {
		t.Fatal(e)
	}
	b = append(b, bytes.Repeat([]byte{3, 0, 0, 7}, 100000)...)
	k := 0
	for at, i := range All(b) {
		want := placed{k, api.Instr{Op: api.OReturn, N: 9}}
		if k == 100000 {
			want.i = great
		} else if k > 100000 {
			want = placed{k + len(great.Map), api.Instr{Op: api.OJump, N: 7}}
		}
		if at != want.at || !sameInstr(i, want.i) {
			t.Fatalf("P1404: number %d: %d, %s", k, at, short(i))
		}
		k++
	}
	if k != 200001 {
		t.Errorf("P1404: %d", k)
	}
}
