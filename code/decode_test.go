package code

import (
	"bytes"
	"maps"
	"math"
	"slices"
	"testing"

	"turnpike/api"
)

// farPlaces are places that no code has; some are at a word, if they are multiplied by four and only the lowest bits are kept.
var farPlaces = []int{-1, -2, -3, -4, -8, math.MinInt, math.MinInt + 1, math.MinInt / 2, math.MinInt / 4, math.MinInt/4 + 1, math.MinInt32, -1 << 30, -1 << 32, 1 << 22, 1 << 29, 1 << 30, math.MaxInt32, 1 << 31, 1 << 32, 1<<32 + 1, 1 << 61, 1 << 62, 1<<62 + 1, math.MaxInt / 4, math.MaxInt/4 + 1, math.MaxInt / 2, math.MaxInt - 1, math.MaxInt}

// isRead asks that Decode reads what it must; that it changes nothing, keeps nothing, reads nothing of the room behind the bytes, and reads the same if asked again.
func isRead(t *testing.T, b []byte, at int) api.Errno {
	t.Helper()
	want, wantSize, wantError := decodeBy(b, at)
	handed, asItWas := guarded(b, 0x80)
	i, size, e := Decode(handed, at)
	if !sameInstr(i, want) || size != wantSize || e != wantError {
		t.Fatalf("P1403: %x at %d: %s, %d, %v, want %s, %d, %v", b[:min(len(b), 40)], at, short(i), size, e, short(want), wantSize, wantError)
	}
	again, sizeAgain, errorAgain := Decode(handed, at)
	if !sameInstr(again, want) || sizeAgain != wantSize || errorAgain != wantError {
		t.Fatalf("P3: %x at %d", b[:min(len(b), 40)], at)
	}
	overwrite(again.Map, 0xDDDDDDDD)
	if !asItWas() || !sameInstr(i, want) {
		t.Fatalf("P2: %x at %d: what was handed in is changed, or a map is no new memory", b[:min(len(b), 40)], at)
	}
	overwrite(handed, 0xCC)
	if !sameInstr(i, want) {
		t.Fatalf("P2: %x at %d: what was handed in is kept", b[:min(len(b), 40)], at)
	}
	return e
}

// isRefused asks that Decode tells an error, and zero values beside it.
func isRefused(t *testing.T, b []byte, at int, want api.Errno) {
	t.Helper()
	if i, size, e := Decode(b, at); e != want || !isNone(i) || size != 0 {
		t.Fatalf("P1403: %x at %d: %s, %d, %v, want %v", b[:min(len(b), 40)], at, short(i), size, e, want)
	}
}

func TestP1403ByHand(t *testing.T) {
	for _, x := range []struct {
		b    string
		at   int
		want api.Instr
		size int
		e    api.Errno
	}{
		{"04000102", 0, api.Instr{Op: api.OReturn, N: 258}, 1, api.OK}, {"04000102", 1, api.Instr{}, 0, api.ErrBounds}, {"04010000", 0, api.Instr{}, 0, api.ErrOp}, {"01000019", 0, api.Instr{}, 0, api.ErrArg}, {"0200000120000000", 0, api.Instr{}, 0, api.ErrMap},
		{"02000001c0000000", 0, api.Instr{Op: api.OIndex, N: 1, Map: []uint32{0xC0000000}}, 2, api.OK}, {"020000068000000000000001", 0, api.Instr{Op: api.OIndex, N: 6, Map: []uint32{highest, 1}}, 3, api.OK}, {"02000005ffffffff", 0, api.Instr{Op: api.OIndex, N: 5, Map: []uint32{full}}, 2, api.OK},
		{"01000018", 0, api.Instr{Op: api.OExtract, N: 24}, 1, api.OK}, {"03ffffff", 0, api.Instr{Op: api.OJump, N: maxN}, 1, api.OK}, {"03010203", 0, api.Instr{Op: api.OJump, N: 0x010203}, 1, api.OK}, {"0400ffff", 0, api.Instr{Op: api.OReturn, N: 65535}, 1, api.OK}, {"04000000", 0, api.Instr{Op: api.OReturn}, 1, api.OK},
		{"ffffffff04000102", 1, api.Instr{Op: api.OReturn, N: 258}, 1, api.OK}, {"0400010203000001ffff", 1, api.Instr{Op: api.OJump, N: 1}, 1, api.OK}, {"0400010203000001ffff", 2, api.Instr{}, 0, api.ErrBounds}, {"0400010203000001ffffff", 2, api.Instr{}, 0, api.ErrBounds},
		{"", 0, api.Instr{}, 0, api.ErrBounds}, {"04", 0, api.Instr{}, 0, api.ErrBounds}, {"040001", 0, api.Instr{}, 0, api.ErrBounds}, {"04000102", -1, api.Instr{}, 0, api.ErrBounds}, {"04000102", math.MaxInt, api.Instr{}, 0, api.ErrBounds}, {"04000102", math.MinInt, api.Instr{}, 0, api.ErrBounds},
		{"00000000", 0, api.Instr{}, 0, api.ErrOp}, {"00000001", 0, api.Instr{}, 0, api.ErrOp}, {"05000001", 0, api.Instr{}, 0, api.ErrOp}, {"ff000001", 0, api.Instr{}, 0, api.ErrOp}, {"81000001", 0, api.Instr{}, 0, api.ErrOp},
		{"01000000", 0, api.Instr{}, 0, api.ErrArg}, {"010000ff", 0, api.Instr{}, 0, api.ErrArg}, {"02000000", 0, api.Instr{}, 0, api.ErrArg}, {"02000019", 0, api.Instr{}, 0, api.ErrArg}, {"03000000", 0, api.Instr{}, 0, api.ErrArg},
		{"01010001", 0, api.Instr{}, 0, api.ErrOp}, {"01000101", 0, api.Instr{}, 0, api.ErrOp}, {"02010001c0000000", 0, api.Instr{}, 0, api.ErrOp}, {"02000101c0000000", 0, api.Instr{}, 0, api.ErrOp}, {"04ff0001", 0, api.Instr{}, 0, api.ErrOp},
		{"02000001", 0, api.Instr{}, 0, api.ErrBounds}, {"02000001c00000", 0, api.Instr{}, 0, api.ErrBounds}, {"0200000680000000", 0, api.Instr{}, 0, api.ErrBounds}, {"0200000680000000000000", 0, api.Instr{}, 0, api.ErrBounds}, {"0200000600000000000000", 0, api.Instr{}, 0, api.ErrBounds},
	} {
		i, size, e := Decode(unhex(x.b), x.at)
		if !sameInstr(i, x.want) || size != x.size || e != x.e {
			t.Errorf("P1403: %s at %d: %s, %d, %v", x.b, x.at, short(i), size, e)
		}
	}
}

// TestP1403Places: an instruction at the first word, at a later one, at the last one; and places that are none.
func TestP1403Places(t *testing.T) {
	rest := []byte{4, 0, 0, 9, 1, 0, 0, 2, 7}
	for _, i := range instrs() {
		for ahead := range 4 {
			for behind := range len(rest) + 1 {
				b := slices.Concat(bytes.Repeat([]byte{0xFF}, 4*ahead), bytesBy(i), rest[:behind])
				if len(i.Map) > 8 && behind%4 != 0 {
					continue
				}
				if e := isRead(t, b, ahead); e != api.OK {
					t.Fatalf("P1403: %s at %d: %v", short(i), ahead, e)
				}
				isRefused(t, b, len(b)/4, api.ErrBounds)
				isRefused(t, b, len(b)/4+1, api.ErrBounds)
			}
		}
		for _, at := range farPlaces {
			isRefused(t, bytesBy(i), at, api.ErrBounds)
		}
	}
	for _, at := range append(farPlaces, 0, 1, 2) {
		for size := range 4 {
			isRefused(t, make([]byte, size, 64), at, api.ErrBounds)
			isRefused(t, []byte{4, 0, 0}[:min(size, 3)], at, api.ErrBounds)
		}
		isRefused(t, nil, at, api.ErrBounds)
	}
}

// TestP1403FirstWords: all first bytes, by bytes at the edges behind them; with and without a map behind these.
func TestP1403FirstWords(t *testing.T) {
	edges := []byte{0, 1, 2, 4, 5, 6, 23, 24, 25, 26, 127, 128, 255}
	count := map[api.Errno]int{}
	for op := range 256 {
		for _, second := range edges {
			for _, third := range edges {
				for _, fourth := range edges {
					b := []byte{byte(op), second, third, fourth, 0x80, 0, 0, 0, 0xC0, 0, 0, 0}
					i, size, e := Decode(b, 0)
					want, wantSize, wantError := decodeBy(b, 0)
					if !sameInstr(i, want) || size != wantSize || e != wantError {
						t.Fatalf("P1403: %x: %s, %d, %v, want %s, %d, %v", b, short(i), size, e, short(want), wantSize, wantError)
					}
					count[e]++
				}
			}
		}
	}
	// Of the 13 edges 7 are 1 to 24. As N of OIndex five have a map there, two have none; a jump has all but 0, a return all of its two bytes.
	want := map[api.Errno]int{api.OK: 7 + 5 + 2196 + 169, api.ErrBounds: 2, api.ErrArg: 6 + 6 + 1}
	want[api.ErrOp] = 256*2197 - 7 - 7 - 2196 - 169 - 13
	if !maps.Equal(count, want) {
		t.Errorf("P1403: %v, want %v", count, want)
	}
}

// TestP1403Noughts: each byte that the table has as 00 set by itself, to each other number: ErrOp, also ahead of an N that is wrong.
func TestP1403Noughts(t *testing.T) {
	for _, x := range []struct {
		b       string
		noughts []int
	}{
		{"01000001", []int{1, 2}}, {"01000018", []int{1, 2}}, {"01000000", []int{1, 2}}, {"01000019", []int{1, 2}}, {"010000ff", []int{1, 2}},
		{"0200000180000000", []int{1, 2}}, {"0200000580000000", []int{1, 2}}, {"02000000", []int{1, 2}}, {"02000019", []int{1, 2}}, {"02000001", []int{1, 2}}, {"0200000100000000", []int{1, 2}},
		{"04000000", []int{1}}, {"0400ffff", []int{1}}, {"04000102", []int{1}},
	} {
		for _, place := range x.noughts {
			for n := 1; n < 256; n++ {
				b := unhex(x.b)
				b[place] = byte(n)
				isRefused(t, b, 0, api.ErrOp)
				isRefused(t, append([]byte{4, 0, 0, 0}, b...), 1, api.ErrOp)
			}
		}
	}
	for n := 1; n < 256; n++ {
		for _, b := range [][]byte{{3, byte(n), 0, 0}, {3, 0, byte(n), 0}, {3, 0, 0, byte(n)}, {4, 0, byte(n), 0}, {4, 0, 0, byte(n)}} {
			if e := isRead(t, b, 0); e != api.OK {
				t.Errorf("P1403: %x: %v", b, e)
			}
		}
	}
}

// TestP1403Ops: each first byte that is no operation, whatever stands behind it.
func TestP1403Ops(t *testing.T) {
	for op := range 256 {
		if 1 <= op && op <= 4 {
			continue
		}
		for _, rest := range []string{"000000", "000001", "000018", "00ffff", "ffffff", "00000180000000"} {
			isRefused(t, append([]byte{byte(op)}, unhex(rest)...), 0, api.ErrOp)
		}
	}
}

// TestP1403Args: each number of a byte as N of OExtract and OIndex, with a map behind it that is right where N is.
func TestP1403Args(t *testing.T) {
	for n := range 256 {
		want := api.ErrArg
		if 1 <= n && n <= 24 {
			want = api.OK
		}
		if _, _, e := Decode([]byte{1, 0, 0, byte(n)}, 0); e != want {
			t.Errorf("P1403: extract %d: %v", n, e)
		}
		b := make([]byte, 4+4*(1<<19))
		b[0], b[3], b[4] = 2, byte(n), 0x80
		i, size, e := Decode(b, 0)
		if e != want || want == api.OK && (!sameInstr(i, api.Instr{Op: api.OIndex, N: n, Map: mapOf(n)}) || size != 1+len(mapOf(n))) {
			t.Errorf("P1403: index %d: %s, %d, %v", n, short(i), size, e)
		}
		if e != api.OK && (!isNone(i) || size != 0) {
			t.Errorf("P4: index %d: %s, %d", n, short(i), size)
		}
	}
	for n := range 1 << 16 {
		if i, size, e := Decode([]byte{4, 0, byte(n >> 8), byte(n)}, 0); i.Op != api.OReturn || i.N != n || len(i.Map) != 0 || size != 1 || e != api.OK {
			t.Fatalf("P1403: return %d: %s, %v", n, short(i), e)
		}
	}
	isRefused(t, []byte{3, 0, 0, 0}, 0, api.ErrArg)
}

// TestP1403MapsCut: a map of which words are not there, or bytes of one: ErrBounds, whatever stands in what is there.
func TestP1403MapsCut(t *testing.T) {
	for n := 1; n <= 10; n++ {
		for _, m := range [][]uint32{mapOf(n), make([]uint32, len(mapOf(n))), mapOf(n, 1<<n-1)} {
			b := bytesBy(api.Instr{Op: api.OIndex, N: n, Map: m})
			for size := 4; size < len(b); size++ {
				isRefused(t, b[:size], 0, api.ErrBounds)
				isRefused(t, append([]byte{1, 0, 0, 1}, b[:size]...), 1, api.ErrBounds)
			}
			isRead(t, b, 0)
		}
	}
	for n := 11; n <= api.MaxBits; n++ {
		b := make([]byte, 4+4*len(mapOf(n)))
		b[0], b[3], b[4] = 2, byte(n), 0x80
		for _, size := range []int{4, 5, 8, len(b) / 2, len(b) - 8, len(b) - 4, len(b) - 3, len(b) - 1} {
			isRefused(t, b[:size], 0, api.ErrBounds)
		}
		if i, size, e := Decode(b, 0); e != api.OK || size != len(b)/4 || len(i.Map) != size-1 {
			t.Errorf("P1403: index %d: %d, %v", n, size, e)
		}
	}
}

// TestP1403WrongMaps: words that are no map of N.
func TestP1403WrongMaps(t *testing.T) {
	for n := 1; n <= 10; n++ {
		for _, first := range []uint32{0, 1, 0x40000000, full >> 1} {
			m := mapOf(n)
			m[0] = first
			isRefused(t, bytesBy(api.Instr{Op: api.OIndex, N: n, Map: m}), 0, api.ErrMap)
			isRefused(t, append(bytesBy(api.Instr{Op: api.OIndex, N: n, Map: m}), 0x80, 0, 0, 0), 0, api.ErrMap)
		}
	}
	for n := 1; n <= 4; n++ {
		for place := range 32 {
			b := bytesBy(api.Instr{Op: api.OIndex, N: n, Map: mapOf(n, place)})
			want := api.OK
			if place >= 1<<n {
				want = api.ErrMap
			}
			if e := isRead(t, b, 0); e != want {
				t.Errorf("P1403: place %d of a map of %d is set: %v", place, n, e)
			}
		}
	}
}

// TestP1403Order: which error comes first, where there are several.
func TestP1403Order(t *testing.T) {
	for _, x := range []struct {
		b    string
		at   int
		want api.Errno
	}{
		{"000000", 0, api.ErrBounds}, {"010100", 0, api.ErrBounds}, {"00000000", 1, api.ErrBounds},
		{"00010000", 0, api.ErrOp}, {"01010000", 0, api.ErrOp}, {"010001ff", 0, api.ErrOp}, {"02010000", 0, api.ErrOp}, {"020001ff00000000", 0, api.ErrOp}, {"02010001", 0, api.ErrOp}, {"0201000100000000", 0, api.ErrOp},
		{"02000000", 0, api.ErrArg}, {"0200000000000000", 0, api.ErrArg}, {"02000019", 0, api.ErrArg}, {"0200001900000000", 0, api.ErrArg}, {"020000ff00000000", 0, api.ErrArg},
		{"0200000600000000", 0, api.ErrBounds}, {"02000006000000000000", 0, api.ErrBounds}, {"0200000100", 0, api.ErrBounds}, {"0200001820000000", 0, api.ErrBounds},
		{"020000060000000000000000", 0, api.ErrMap}, {"0200000120000000", 0, api.ErrMap}, {"02000001e0000000", 0, api.ErrMap},
	} {
		isRefused(t, unhex(x.b), x.at, x.want)
	}
}

// TestP1403GreatMapsThatAreNone: at each of very many words a map of 2^24 places would follow; that it is none must be told by few of its words.
func TestP1403GreatMapsThatAreNone(t *testing.T) {
	const words = 1 << 20
	b := bytes.Repeat([]byte{2, 0, 0, 24}, words)
	for at := range words {
		want := api.ErrMap
		if at+1+1<<19 > words {
			want = api.ErrBounds
		}
		if i, size, e := Decode(b, at); e != want || size != 0 || !isNone(i) {
			t.Fatalf("P1403: at %d: %s, %d, %v, want %v", at, short(i), size, e, want)
		}
	}
}
