package code

import (
	"bytes"
	"testing"

	"turnpike/api"
)

// TestP1405ThereAndBack: instructions laid down one behind the other are each read at their place, and gone over by All.
func TestP1405ThereAndBack(t *testing.T) {
	l := instrs()
	for _, head := range [][]byte{nil, {0, 0, 0, 0}, bytes.Repeat([]byte{0xFF}, 12)} {
		b := head
		var places []int
		for _, i := range l {
			places = append(places, len(b)/4)
			laid, e := Encode(b, i)
			if e != api.OK || !bytes.Equal(laid[:len(b)], b) {
				t.Fatalf("P1402: %s: %v", short(i), e)
			}
			b = laid
		}
		for k, i := range l {
			if back, size, e := Decode(b, places[k]); !sameInstr(back, i) || size != Size(i) || e != api.OK {
				t.Fatalf("P1405: %s at %d: %s, %d, %v", short(i), places[k], short(back), size, e)
			}
		}
		if len(head) != 0 {
			continue
		}
		k := 0
		for at, i := range All(b) {
			if at != places[k] || !sameInstr(i, l[k]) {
				t.Fatalf("P1405: number %d: %d, %s", k, at, short(i))
			}
			k++
		}
		if k != len(l) {
			t.Errorf("P1405: %d of %d", k, len(l))
		}
	}
}

// TestP1405Numbers: every N of OExtract and OReturn, many of OJump.
func TestP1405Numbers(t *testing.T) {
	thereAndBack := func(op, n int) {
		b, e := Encode([]byte{1, 2, 3, 4}, api.Instr{Op: op, N: n})
		if e != api.OK || len(b) != 8 {
			t.Fatalf("P1405: %d %d: %x, %v", op, n, b, e)
		}
		if i, size, e := Decode(b, 1); !sameInstr(i, api.Instr{Op: op, N: n}) || size != 1 || e != api.OK {
			t.Fatalf("P1405: %d %d: %s, %d, %v", op, n, short(i), size, e)
		}
	}
	for n := 1; n <= 24; n++ {
		thereAndBack(api.OExtract, n)
	}
	for n := range 1 << 16 {
		thereAndBack(api.OReturn, n)
	}
	for n := 1; n <= maxN; n += 1 + n%61 {
		thereAndBack(api.OJump, n)
	}
}

// TestP1405Maps: maps of each N up to MaxBits, without a pattern.
func TestP1405Maps(t *testing.T) {
	next := counter()
	for n := 1; n <= api.MaxBits; n++ {
		for k := range max(2, 12-n) {
			i := api.Instr{Op: api.OIndex, N: n, Map: someMap(next, n, k%2 == 1)}
			b, e := Encode(nil, i)
			if e != api.OK {
				t.Fatalf("P1405: %s: %v", short(i), e)
			}
			back, size, e := Decode(b, 0)
			if !sameInstr(back, i) || size != Size(i) || 4*size != len(b) || e != api.OK {
				t.Fatalf("P1405: %s: %s, %d, %v", short(i), short(back), size, e)
			}
			if again, e := Encode(nil, back); !bytes.Equal(again, b) || e != api.OK {
				t.Fatalf("P1405: %s is laid down otherwise: %v", short(i), e)
			}
		}
	}
}

// isLaidAgain asks that what Decode reads at a place, Encode lays down again, byte by byte.
func isLaidAgain(t *testing.T, b []byte, at int) api.Errno {
	t.Helper()
	i, size, e := Decode(b, at)
	if e != api.OK {
		return e
	}
	if Check(i) != api.OK || Size(i) != size {
		t.Fatalf("P1405: %x at %d: %s is no instruction", b, at, short(i))
	}
	if laid, e := Encode(b[:4*at], i); e != api.OK || !bytes.Equal(laid, b[:4*(at+size)]) {
		t.Fatalf("P1405: %x at %d: %x, %v", b, at, laid, e)
	}
	return api.OK
}

// likelyWord is a word without a pattern of which a good part are instructions, or maps.
func likelyWord(next func() uint64) []byte {
	b := []byte{byte(upTo(next, 6)), 0, 0, byte(upTo(next, 27))}
	if upTo(next, 2) == 0 {
		b[3] %= 8
	}
	switch upTo(next, 8) {
	case 0:
		b[1] = byte(next() >> 9)
	case 1:
		b[2] = byte(next() >> 9)
	case 2, 3:
		b = []byte{byte(0x80 | next()>>9), byte(next() >> 9), byte(next() >> 9), byte(next() >> 9)}
	case 4, 5:
		b = []byte{byte(0x80 << upTo(next, 2)), 0, 0, 0}
	}
	return b
}

// TestP1405ManyBytes: rows of many kinds, at all places: Decode reads what the chapter says, and Encode lays that down again.
func TestP1405ManyBytes(t *testing.T) {
	next := counter()
	count := map[api.Errno]int{}
	withMap := 0
	for range 100000 {
		var b []byte
		for range upTo(next, 9) {
			b = append(b, likelyWord(next)...)
		}
		b = b[:max(0, len(b)-upTo(next, 5))]
		for at := -1; at <= len(b)/4+1; at++ {
			count[isRead(t, b, at)]++
			if isLaidAgain(t, b, at) == api.OK && b[4*at] == api.OIndex {
				withMap++
			}
		}
	}
	for _, e := range []api.Errno{api.OK, api.ErrBounds, api.ErrOp, api.ErrArg, api.ErrMap} {
		if count[e] < 300 {
			t.Errorf("only %d are %v", count[e], e)
		}
	}
	if withMap < 300 {
		t.Errorf("only %d have a map", withMap)
	}
}

// TestP1405BitsTurned: one bit of an instruction turned is refused, or another instruction, or one of fewer words; never the same.
func TestP1405BitsTurned(t *testing.T) {
	for _, i := range instrs() {
		if len(i.Map) > 16 {
			continue
		}
		b := bytesBy(i)
		for bit := range 8 * len(b) {
			b[bit/8] ^= 1 << (bit % 8)
			if e := isRead(t, b, 0); e == api.OK {
				if other, _, _ := Decode(b, 0); sameInstr(other, i) {
					t.Fatalf("P1405: bit %d of %x turned: the same", bit, b)
				}
			}
			isLaidAgain(t, b, 0)
			b[bit/8] ^= 1 << (bit % 8)
		}
	}
}

// TestP1405AllWords: single words, over all that there are: what is read is laid down again, and from 05 on nothing is read.
func TestP1405AllWords(t *testing.T) {
	for w := uint64(0); w < 1<<32; w += 1 + w%4001 {
		b := []byte{byte(w >> 24), byte(w >> 16), byte(w >> 8), byte(w)}
		i, size, e := Decode(b, 0)
		if e == api.OK {
			if laid, f := Encode(nil, i); !bytes.Equal(laid, b) || f != api.OK || size != 1 {
				t.Fatalf("P1405: %x: %s, %d", b, short(i), size)
			}
		} else if !isNone(i) || size != 0 {
			t.Fatalf("P4: %x: %s, %d, %v", b, short(i), size, e)
		}
		if w >= 5<<24 && e != api.ErrOp {
			t.Fatalf("P1403: %x: %v", b, e)
		}
	}
}
