package emit

import (
	"bytes"
	"math"
	"testing"

	"turnpike/api"
	"turnpike/code"
)

// codeOf asks for what Code tells of a list whose code is short enough.
func codeOf(t *testing.T, family int, l []api.Node) []byte {
	t.Helper()
	b, e := Code(family, l, api.MaxImage)
	if e != api.OK {
		t.Fatalf("P1603: Code of %s by %d: %v", textOf(l), family, e)
	}
	return b
}

// TestP1603TheExamples: the chapter's.
func TestP1603TheExamples(t *testing.T) {
	for _, family := range families {
		l := nodesOf("1 0=5 1=0")
		if b, e := Code(family, l, 20); e != api.OK || !bytes.Equal(b, unhex("01 00 00 01, 02 00 00 01 C0 00 00 00, 04 00 00 05, 04 00 00 00")) {
			t.Errorf("P1603: %x, %v", b, e)
		}
		if _, words := placesOf(t, family, l); words != 5 {
			t.Errorf("P1602: %d words", words)
		}
		if b, e := Code(family, nodesOf("0 0=9"), 4); e != api.OK || !bytes.Equal(b, unhex("04 00 00 09")) {
			t.Errorf("P1603: %x, %v", b, e)
		}
	}
}

func TestP1603ByHand(t *testing.T) {
	for _, x := range []struct {
		text, want string
	}{
		{"0 0=0", "04000000"}, {"0 0=65535", "0400ffff"}, {"1 0=258", "01000001 02000001 80000000 04000102"},
		// Maps at the edges of words.
		{"2 0=1 3=2", "01000002 02000002 90000000 04000001 04000002"},
		{"5 0=1 1=2 31=3", "01000005 02000005 c0000001 04000001 04000002 04000003"},
		{"6 0=1 31=2 32=3 63=4", "01000006 02000006 80000001 80000001 04000001 04000002 04000003 04000004"},
		{"7 0=1 64=2", "01000007 02000007 80000000 00000000 80000000 00000000 04000001 04000002"},
		// Jumps, told from their own places.
		{"1 0>1; 1 0=1", "01000001 02000001 80000000 03000001 01000001 02000001 80000000 04000001"},
		{"1 0>1 1=9; 1 0=1", "01000001 02000001 c0000000 03000002 04000009 01000001 02000001 80000000 04000001"},
		{"1 0>2 1>1; 1 0=5; 1 0=6", "01000001 02000001 c0000000 03000002 03000005 01000001 02000001 80000000 04000006 01000001 02000001 80000000 04000005"},
		// To one node from two places.
		{"2 0>1 1=3 3>1; 1 0=1", "01000002 02000002 d0000000 03000003 04000003 03000001 01000001 02000001 80000000 04000001"},
		{"1 0>2 1>1; 1 0=7 1>2; 1 0=3", "01000001 02000001 c0000000 03000007 03000001 01000001 02000001 c0000000 04000007 03000001 01000001 02000001 80000000 04000003"},
	} {
		for _, family := range families {
			l, want := nodesOf(x.text), unhex(x.want)
			if b := codeOf(t, family, l); !bytes.Equal(b, want) {
				t.Errorf("P1603: %s by %d: %x, want %x", x.text, family, b, want)
			}
			if b, e := codeBy(family, l, 100); e != api.OK || !bytes.Equal(b, want) {
				t.Errorf("%s: what the tests know is %x, %v", x.text, b, e)
			}
		}
	}
}

// isCode asks that Code tells what the chapter says of a list and a limit.
func isCode(t *testing.T, family int, l []api.Node, most int) api.Errno {
	t.Helper()
	known, want := codeBy(family, l, most)
	if b, e := Code(family, l, most); e != want || !bytes.Equal(b, known) {
		t.Fatalf("P1603: Code of %s by %d and %d: %s, %v, want %s, %v", textOf(l), family, most, short(b), e, short(known), want)
	}
	return want
}

// TestP1603SmallLists: all lists of up to four nodes of 1 bit.
func TestP1603SmallLists(t *testing.T) {
	count := 0
	for size := 1; size <= 4; size++ {
		for l := range smallLists(size) {
			count++
			isCode(t, families[count%2], l, 1000)
		}
	}
}

// TestP1603AsTheChapterSays: right lists of all kinds, by limits at their edges.
func TestP1603AsTheChapterSays(t *testing.T) {
	for _, family := range families {
		for i, l := range samples(family) {
			_, words, _ := placesBy(family, l)
			isCode(t, family, l, []int{4 * words, 4*words + 1, api.MaxImage, math.MaxInt}[i%4])
			for _, most := range []int{4*words - 1, 4*words - 4, words, 3, 0, -1, math.MinInt} {
				if b, e := Code(family, l, most); len(b) != 0 || e != api.ErrSize {
					t.Fatalf("P1603: %d bytes of %s by %d: %s, %v", 4*words, textOf(l), most, short(b), e)
				}
			}
		}
	}
}

// TestP1603Limits: just as many bytes as the code has, one fewer, none, below none, and far off.
func TestP1603Limits(t *testing.T) {
	for text, size := range map[string]int{"0 0=9": 4, "1 0=5 1=0": 20, "6 0=1": 20, "1 0>1; 1 0=1": 32, "24 0=1": 4 * 524291} {
		l := nodesOf(text)
		for _, family := range families {
			for _, most := range []int{size, size + 1, size + 4, api.MaxImage, api.MaxImage + 1, 1 << 32, math.MaxInt} {
				if b, e := Code(family, l, most); len(b) != size || e != api.OK {
					t.Errorf("P1603: %s by %d: %d bytes, %v", text, most, len(b), e)
				}
			}
			for _, most := range []int{size - 1, size - 2, size - 3, size - 4, size / 4, size/4 - 1, 3, 2, 1, 0, -1, -4, -size, math.MinInt, math.MinInt + 1} {
				if b, e := Code(family, l, most); len(b) != 0 || e != api.ErrSize {
					t.Errorf("P1603: %s by %d: %d bytes, %v", text, most, len(b), e)
				}
			}
		}
	}
}

// runsOf is a node of so many bits and runs, one beside the other.
func runsOf(bits, runs int) api.Node {
	n := api.Node{Bits: bits, Runs: make([]api.Run, runs)}
	for i := range runs {
		n.Runs[i] = api.Run{From: api.Word{Lo: uint64(i)}, N: i % 65536}
	}
	return n
}

// TestP1603MaxImage: code of just MaxImage bytes, and of a word more, which no limit allows.
func TestP1603MaxImage(t *testing.T) {
	const words = api.MaxImage / 4
	for _, x := range []struct {
		bits, mapWords int
	}{{24, 1 << 19}, {22, 1 << 17}, {20, 1 << 15}} {
		l := []api.Node{runsOf(x.bits, words-2-x.mapWords)}
		if e := isCode(t, 32, l, api.MaxImage); e != api.OK {
			t.Errorf("P1603: %d bits: %v", x.bits, e)
		}
		for _, family := range families {
			for _, most := range []int{api.MaxImage, api.MaxImage + 1, math.MaxInt} {
				if b, e := Code(family, l, most); len(b) != api.MaxImage || e != api.OK {
					t.Errorf("P1603: %d bits by %d: %d bytes, %v", x.bits, most, len(b), e)
				}
			}
			if b, e := Code(family, l, api.MaxImage-1); len(b) != 0 || e != api.ErrSize {
				t.Errorf("P1603: %d bits by a byte fewer: %d bytes, %v", x.bits, len(b), e)
			}
			more := []api.Node{runsOf(x.bits, words-2-x.mapWords+1)}
			for _, most := range []int{api.MaxImage, api.MaxImage + 3, api.MaxImage + 4, api.MaxImage + 5, 1 << 32, math.MaxInt} {
				if b, e := Code(family, more, most); len(b) != 0 || e != api.ErrSize {
					t.Errorf("P1603: %d bits and a word more by %d: %d bytes, %v", x.bits, most, len(b), e)
				}
			}
		}
	}
}

// TestP1603ManyNodes: as many nodes as an image can hold, to all of which node 0 jumps; and one more.
func TestP1603ManyNodes(t *testing.T) {
	leaf := nodesOf("1 0=1 1=2")[0]
	const most = (api.MaxImage/4 - 2 - 1<<18/32) / 6
	for _, family := range families {
		if e := isCode(t, family, fan(18, most, leaf), math.MaxInt); e != api.OK {
			t.Errorf("P1603: %v", e)
		}
		if e := isCode(t, family, fan(18, most+1, leaf), math.MaxInt); e != api.ErrSize {
			t.Errorf("P1603: %v", e)
		}
	}
}

// TestP1603FarJumps: over great maps, so that all three bytes of a jump are needed.
func TestP1603FarJumps(t *testing.T) {
	for _, text := range []string{"1 0>1 1>2; 24 0=1 16777215=2; 1 0=3", "1 0>2 1>1; 1 0=3; 24 0=1", "2 0>1 1>2 2>3; 23 0=1; 22 0=2; 23 0=3", "2 0>3 1>1 2>2; 23 0=1; 22 0>3 77=2; 8 0=3"} {
		for _, family := range families {
			if e := isCode(t, family, nodesOf(text), math.MaxInt); e != api.OK {
				t.Errorf("P1603: %s: %v", text, e)
			}
		}
	}
	b := codeOf(t, 32, nodesOf("1 0>1 1>2; 24 0=1 16777215=2; 1 0=3"))
	if i, _, e := code.Decode(b, 4); i.Op != api.OJump || i.N != 1+524292 || e != api.OK {
		t.Errorf("P1603: %v, %v", i, e)
	}
}

// TestP1603Great: what is far too long is refused ahead of laying it.
func TestP1603Great(t *testing.T) {
	l := fan(16, 1<<16, api.Node{Bits: 24, Runs: []api.Run{{N: 1}}})
	for _, most := range []int{math.MinInt, -1, 0, 1, api.MaxImage, 1 << 32, 1 << 40, math.MaxInt} {
		if b, e := Code(128, l, most); len(b) != 0 || e != api.ErrSize {
			t.Errorf("P1603: by %d: %d bytes, %v", most, len(b), e)
		}
	}
}

// TestP1603Wrong: the errors of mtrie.Check come first, whatever the limit is.
func TestP1603Wrong(t *testing.T) {
	for _, most := range []int{math.MinInt, -1, 0, 1, 4, 1000, api.MaxImage, api.MaxImage + 1, math.MaxInt} {
		try := func(l []api.Node, family int, want api.Errno) {
			if b, e := Code(family, l, most); len(b) != 0 || e != want {
				t.Errorf("P1603: %s by %d and %d: %s, %v, want %v", textOf(l), family, most, short(b), e, want)
			}
		}
		for _, x := range wrong {
			for family, want := range map[int]api.Errno{32: x.four, 128: x.six} {
				if want == api.OK {
					want = api.ErrSize
				}
				try(nodesOf(x.text), family, want)
			}
			for _, family := range noFamilies {
				try(nodesOf(x.text), family, api.ErrFamily)
			}
		}
		for _, family := range noFamilies {
			try(nodesOf("0 0=9"), family, api.ErrFamily)
		}
		for _, l := range tooWide() {
			try(l, 128, api.ErrSize)
		}
	}
}

// TestP1603SpoiltAsTheChapterSays: of lists without a pattern, most of them not right, code or error.
func TestP1603SpoiltAsTheChapterSays(t *testing.T) {
	next := counter()
	seen := map[api.Errno]int{}
	for range 10000 {
		l := spoil(next, someList(next, 32, 12))
		for _, family := range []int{32, 128, 64} {
			seen[isCode(t, family, l, []int{40, 200, 4000, math.MaxInt, -1}[upTo(next, 5)])]++
		}
	}
	for _, e := range []api.Errno{api.OK, api.ErrFamily, api.ErrArg, api.ErrOrder, api.ErrHop, api.ErrJump, api.ErrUnused, api.ErrBits, api.ErrSize} {
		if seen[e] < 20 {
			t.Errorf("only %d lists of %v", seen[e], e)
		}
	}
}

// TestP1603EachInstruction: at its place, read again by code.Decode.
func TestP1603EachInstruction(t *testing.T) {
	for _, family := range families {
		for _, l := range samples(family) {
			b := codeOf(t, family, l)
			places, words := placesOf(t, family, l)
			if len(b) != 4*words {
				t.Fatalf("P1603: %s: %d bytes, want %d words", textOf(l), len(b), words)
			}
			for number, n := range l {
				readsAs(t, b, places, number, n)
			}
		}
	}
}

// readsAs asks that a node is laid at its place, instruction by instruction.
func readsAs(t *testing.T, b []byte, places []int, number int, n api.Node) {
	t.Helper()
	at := places[number]
	next := func(op int) api.Instr {
		i, size, e := code.Decode(b, at)
		if e != api.OK || i.Op != op {
			t.Fatalf("P1603: at word %d of node %d of %s: %v, %v, want %d", at, number, short(b), i, e, op)
		}
		at += size
		return i
	}
	if n.Bits > 0 {
		if i := next(api.OExtract); i.N != n.Bits {
			t.Fatalf("P1603: node %d extracts %d bits, want %d", number, i.N, n.Bits)
		}
		i := next(api.OIndex)
		if i.N != n.Bits {
			t.Fatalf("P1603: node %d has an index of %d bits, want %d", number, i.N, n.Bits)
		}
		isSetAt(t, i.Map, n)
	}
	for _, r := range n.Runs {
		here := at
		if !r.Kid {
			if i := next(api.OReturn); i.N != r.N {
				t.Fatalf("P1603: node %d answers %d, want %d", number, i.N, r.N)
			}
		} else if i := next(api.OJump); here+i.N != places[r.N] {
			t.Fatalf("P1603: node %d jumps from %d to %d, want %d", number, here, here+i.N, places[r.N])
		}
	}
	if size, _ := wordsBy(n); at != places[number]+size {
		t.Fatalf("P1601: node %d ends at %d, want %d", number, at, places[number]+size)
	}
}

// isSetAt asks that a map is set at just the slots at which a run begins.
func isSetAt(t *testing.T, m []uint32, n api.Node) {
	t.Helper()
	begins := map[int]bool{}
	for _, r := range n.Runs {
		begins[int(r.From.Lo)] = true
	}
	for place := range 32 * len(m) {
		if set := m[place/32]<<(place%32)>>31 == 1; set != begins[place] {
			t.Fatalf("P1603: slot %d of %s is set: %v", place, textOf([]api.Node{n}), set)
		}
	}
}
