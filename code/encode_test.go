package code

import (
	"bytes"
	"slices"
	"testing"

	"turnpike/api"
)

// heads are rows behind which instructions are laid; they need be no whole words, and no code.
func heads() [][]byte {
	next := counter()
	l := [][]byte{nil, {}, make([]byte, 0, 64), {7}, {0, 0}, {255, 255, 255}, {4, 0, 0, 9}, {9, 9, 9, 9, 9}}
	for _, size := range []int{6, 7, 8, 15, 16, 17, 1000} {
		b := make([]byte, size)
		for k := range b {
			b[k] = byte(next() >> 9)
		}
		l = append(l, b)
	}
	return l
}

func TestP1402ByHand(t *testing.T) {
	for _, x := range []struct {
		b    []byte
		i    api.Instr
		want string
	}{
		{nil, api.Instr{Op: api.OReturn, N: 258}, "04 00 01 02"}, {nil, api.Instr{Op: api.OReturn}, "04 00 00 00"}, {nil, api.Instr{Op: api.OReturn, N: 65535}, "04 00 ff ff"},
		{nil, api.Instr{Op: api.OIndex, N: 1, Map: []uint32{0xC0000000}}, "02 00 00 01 c0 00 00 00"}, {nil, api.Instr{Op: api.OIndex, N: 5, Map: []uint32{0x81020304}}, "02 00 00 05 81 02 03 04"}, {nil, api.Instr{Op: api.OIndex, N: 6, Map: []uint32{0x80000001, 0x01020304}}, "02 00 00 06 80 00 00 01 01 02 03 04"},
		{nil, api.Instr{Op: api.OExtract, N: 1}, "01 00 00 01"}, {nil, api.Instr{Op: api.OExtract, N: 24}, "01 00 00 18"},
		{nil, api.Instr{Op: api.OJump, N: 1}, "03 00 00 01"}, {nil, api.Instr{Op: api.OJump, N: 0x010203}, "03 01 02 03"}, {nil, api.Instr{Op: api.OJump, N: maxN}, "03 ff ff ff"},
		{[]byte{7}, api.Instr{Op: api.OReturn, N: 1}, "07 04 00 00 01"}, {[]byte{9, 8, 7, 6}, api.Instr{Op: api.OIndex, N: 2, Map: []uint32{0xF0000000}}, "09 08 07 06 02 00 00 02 f0 00 00 00"},
	} {
		if b, e := Encode(x.b, x.i); !bytes.Equal(b, unhex(x.want)) || e != api.OK {
			t.Errorf("P1402: %s behind %x: %x, %v", short(x.i), x.b, b, e)
		}
	}
}

// isLaid asks that an instruction is laid behind a row; that nothing handed in is changed, nor the room behind it; that the answer is new memory; and that it is no other one if asked again.
func isLaid(t *testing.T, head []byte, i api.Instr) {
	t.Helper()
	b, bytesAsTheyWere := guarded(head, 0xEE)
	m, mapAsItWas := guarded(i.Map, 0xEEEEEEEE)
	handed := api.Instr{Op: i.Op, N: i.N, Map: m}
	want := slices.Concat(head, bytesBy(i))
	first, e := Encode(b, handed)
	second, f := Encode(b, handed)
	if !bytes.Equal(first, want) || e != api.OK {
		t.Fatalf("P1402: %s behind %d bytes: %x, %v, want %x", short(i), len(head), first[:min(len(first), 40)], e, want[:min(len(want), 40)])
	}
	if len(first) != len(head)+4*Size(i) {
		t.Fatalf("P1402: %s is laid in %d bytes", short(i), len(first)-len(head))
	}
	if !bytes.Equal(second, want) || f != api.OK {
		t.Fatalf("P3: %s behind %d bytes", short(i), len(head))
	}
	overwrite(second, 0xDD)
	if !bytesAsTheyWere() || !mapAsItWas() || !bytes.Equal(first, want) {
		t.Fatalf("P2: %s behind %d bytes: what was handed in is changed, or the answer is no new memory", short(i), len(head))
	}
	overwrite(b, 0xCC)
	overwrite(m, 0xCCCCCCCC)
	if !bytes.Equal(first, want) {
		t.Fatalf("P2: %s behind %d bytes: what was handed in is kept", short(i), len(head))
	}
}

func TestP1402Right(t *testing.T) {
	for _, head := range heads() {
		for _, i := range instrs() {
			if len(head) < 9 || len(i.Map) < 9 {
				isLaid(t, head, i)
			}
		}
	}
}

// TestP1402Room: where there is room for the instruction behind the row, it is not laid there.
func TestP1402Room(t *testing.T) {
	for _, i := range instrs() {
		all := bytes.Repeat([]byte{0xEE}, 8+4*Size(i)+8)
		b, e := Encode(all[:8], i)
		if e != api.OK || bytes.Count(all, []byte{0xEE}) != len(all) {
			t.Fatalf("P1402: %s is laid in the room behind the row", short(i))
		}
		overwrite(b, 0xDD)
		if bytes.Count(all, []byte{0xEE}) != len(all) {
			t.Fatalf("P1402: %s: the answer is no new memory", short(i))
		}
	}
}

func TestP1402Wrong(t *testing.T) {
	for _, i := range wrongInstrs() {
		for _, head := range [][]byte{nil, {1, 2, 3}, {4, 0, 0, 9}} {
			b, bytesAsTheyWere := guarded(head, 0xEE)
			m, mapAsItWas := guarded(i.Map, 0xEEEEEEEE)
			laid, e := Encode(b, api.Instr{Op: i.Op, N: i.N, Map: m})
			if len(laid) != 0 || e != checkBy(i) || e != Check(i) {
				t.Fatalf("P1402: %s: %x, %v, want %v", short(i), laid, e, checkBy(i))
			}
			overwrite(laid, 0xDD)
			if !bytesAsTheyWere() || !mapAsItWas() {
				t.Fatalf("P2: %s: what was handed in is changed", short(i))
			}
		}
	}
}

// TestP1402Greatest: the map of MaxBits has 2^19 words, all of which are laid.
func TestP1402Greatest(t *testing.T) {
	i := api.Instr{Op: api.OIndex, N: api.MaxBits, Map: someMap(counter(), api.MaxBits, false)}
	b, e := Encode([]byte{9, 9, 9, 9}, i)
	if e != api.OK || len(b) != 8+4*len(i.Map) || !bytes.Equal(b[:8], []byte{9, 9, 9, 9, 2, 0, 0, 24}) {
		t.Fatalf("P1402: %d bytes, %v", len(b), e)
	}
	for k, w := range i.Map {
		if got := b[8+4*k : 12+4*k]; !bytes.Equal(got, []byte{byte(w >> 24), byte(w >> 16), byte(w >> 8), byte(w)}) {
			t.Fatalf("P1402: word %d is laid as %x, want %08x", k, got, w)
		}
	}
	if back, size, e := Decode(b, 1); !sameInstr(back, i) || size != 1+1<<19 || e != api.OK {
		t.Errorf("P1405: %s, %d, %v", short(back), size, e)
	}
}
