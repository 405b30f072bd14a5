package verify

import (
	"slices"
	"strings"
	"testing"

	"turnpike/api"
)

// TestP1801TheExamples: the chapter's.
func TestP1801TheExamples(t *testing.T) {
	for _, family := range families {
		isTold(t, family, codeOf("#04000009"), 0, 0, api.OK)
		isRefused(t, family, codeOf("#04000009 #04000009"), 1, api.ErrUnused)
		isRefused(t, family, codeOf("#01000001 #02000001 #c0000000 #04000005"), 4, api.ErrBounds)
		isRefused(t, family, codeOf("#01000001 #02000001 #c0000000 #04000005 #03000001"), 4, api.ErrJump)
		isRefused(t, family, codeOf("#01000001 #02000001 #c0000000 #04000005 #04000005"), 4, api.ErrMap)
	}
	block := "x1 i1:c0000000 j2 r7 "
	b := codeOf(strings.Repeat(block, 32) + "x1 i1:c0000000 r1 r2")
	isRefused(t, 32, b, 32*5, api.ErrBits)
	isTold(t, 128, b, 33, 0, api.OK)
}

func TestP1801ByHand(t *testing.T) {
	for _, x := range []struct {
		text  string
		depth int
	}{
		{"r0", 0}, {"r65535", 0}, {"x1 i1:80000000 r0", 1}, {"x1 i1:c0000000 r0 r1", 1}, {"x2 i2:b0000000 r1 r2 r1", 1}, {"x6 i6:80000000:80000001 r1 r2 r3", 1}, {"x6 i6:80000000:00000000 r1", 1},
		{"x1 i1:80000000 j1 x1 i1:80000000 r0", 2}, {"x1 i1:c0000000 r0 j1 x1 i1:80000000 r0", 2},
		// The same answer, the same jump, but not beside one another; a jump beside the answer of its number, or of its place.
		{"x2 i2:e0000000 j3 r0 j1 x1 i1:80000000 r0", 2}, {"x1 i1:c0000000 j2 r2 x1 i1:80000000 r0", 2}, {"x1 i1:c0000000 j2 r5 x1 i1:80000000 r0", 2}, {"x1 i1:c0000000 r1 j1 x1 i1:80000000 r0", 2}, {"x1 i1:c0000000 r5 j1 x1 i1:80000000 r0", 2},
		// Jumps of one number, to two places.
		{"x1 i1:c0000000 j6 j1 x1 i1:80000000 j1 x1 i1:80000000 r0", 3}, {"x1 i1:c0000000 j2 j5 x1 i1:80000000 r1 x1 i1:80000000 r0", 2}, {"x1 i1:c0000000 j2 j5 x1 i1:80000000 j1 x1 i1:80000000 r0", 3}, {"x2 i2:e0000000 j3 r0 j5 x1 i1:80000000 r1 x1 i1:80000000 r0", 2},
	} {
		for _, family := range families {
			isTold(t, family, codeOf(x.text), x.depth, 0, api.OK)
		}
	}
}

// refused are codes that may not be run, in the order of P1801's points: the word that is told, and why.
var refused = []struct {
	text string
	at   int
	e    api.Errno
}{
	{"", 0, api.ErrCut},
	{"r9 r9", 1, api.ErrUnused}, {"r9 #ffffffff", 1, api.ErrUnused}, {"r0 x1 i1:80000000 r0", 1, api.ErrUnused}, {"r0 r0 r0 r0", 1, api.ErrUnused}, {"r1 #00000000", 1, api.ErrUnused},
	// Nothing that begins a block.
	{"j1", 0, api.ErrOp}, {"i1:80000000", 0, api.ErrOp}, {"#00000000", 0, api.ErrOp}, {"#ffffffff", 0, api.ErrOp}, {"#04010000", 0, api.ErrOp}, {"#04ff0009", 0, api.ErrOp}, {"#04010000 r0", 0, api.ErrOp}, {"j0", 0, api.ErrArg}, {"x0", 0, api.ErrArg}, {"x25", 0, api.ErrArg}, {"#01000100", 0, api.ErrOp}, {"i1:20000000", 0, api.ErrMap}, {"i1", 0, api.ErrBounds}, {"i25", 0, api.ErrArg}, {"j1 x1 i1:80000000 r0", 0, api.ErrOp},
	// Its index.
	{"x1", 1, api.ErrBounds}, {"x1 x1", 1, api.ErrOp}, {"x1 r1", 1, api.ErrOp}, {"x1 j1", 1, api.ErrOp}, {"x1 i1", 1, api.ErrBounds}, {"x1 i2", 1, api.ErrBounds}, {"x1 i6:80000000", 1, api.ErrBounds}, {"x6 i6:80000000", 1, api.ErrBounds}, {"x1 i1:40000000", 1, api.ErrMap}, {"x1 i1:e0000000", 1, api.ErrMap}, {"x1 i0:80000000", 1, api.ErrArg}, {"x1 i25:80000000", 1, api.ErrArg}, {"x1 i2:80000000 r0", 1, api.ErrMap}, {"x2 i1:80000000 r0", 1, api.ErrMap}, {"x1 i2:80000000", 1, api.ErrMap}, {"x1 j0", 1, api.ErrArg}, {"x1 #04010000", 1, api.ErrOp},
	// Its entries.
	{"x1 i1:80000000", 3, api.ErrBounds}, {"x1 i1:c0000000 r5", 4, api.ErrBounds}, {"x6 i6:80000000:00000000", 4, api.ErrBounds}, {"x1 i1:80000000 x1", 3, api.ErrOp}, {"x1 i1:80000000 i1:80000000", 3, api.ErrOp}, {"x1 i1:80000000 i1:20000000", 3, api.ErrMap}, {"x1 i1:80000000 i1", 3, api.ErrBounds}, {"x1 i1:c0000000 r1 #04010000", 4, api.ErrOp}, {"x1 i1:c0000000 r1 j0", 4, api.ErrArg}, {"x1 i1:c0000000 r1 x1", 4, api.ErrOp}, {"x1 i1:c0000000 r1 r1", 4, api.ErrMap}, {"x1 i1:c0000000 r0 r0", 4, api.ErrMap}, {"x1 i1:c0000000 j2 j1 x1 i1:80000000 r0", 4, api.ErrMap}, {"x1 i1:c0000000 j9 j8", 4, api.ErrMap}, {"x2 i2:e0000000 r1 r2 r2", 5, api.ErrMap}, {"x2 i2:f0000000 r1 r2 r1 r1", 6, api.ErrMap}, {"x2 i2:f0000000 r1 j9 j8 r1", 5, api.ErrMap},
	// Behind a block.
	{"x1 i1:80000000 r0 r0", 4, api.ErrOp}, {"x1 i1:80000000 r0 j1", 4, api.ErrOp}, {"x1 i1:80000000 r0 #00000000", 4, api.ErrOp}, {"x1 i1:80000000 r0 i1:80000000", 4, api.ErrOp}, {"x1 i1:80000000 r0 x1", 5, api.ErrBounds}, {"x1 i1:c0000000 r1 r2 r3", 5, api.ErrOp}, {"x1 i1:80000000 j1 x2 i1:80000000 r0", 5, api.ErrMap}, {"x1 i1:c0000000 j2 r0 x24 i1:80000000 r0", 6, api.ErrMap}, {"x1 i1:80000000 j1 x1 i1:c0000000 r1 r1", 8, api.ErrMap},
	// Jumps: to the end and beyond it, into a block ahead of its end, into its own block.
	{"x1 i1:80000000 j1", 3, api.ErrJump}, {"x1 i1:80000000 j2", 3, api.ErrJump}, {"x1 i1:80000000 j16777215", 3, api.ErrJump}, {"x1 i1:c0000000 j1 r1", 3, api.ErrJump}, {"x1 i1:80000000 j2 x1 i1:80000000 r0", 3, api.ErrJump}, {"x1 i1:80000000 j3 x1 i1:80000000 r0", 3, api.ErrJump}, {"x1 i1:80000000 j4 x1 i1:80000000 r0", 3, api.ErrJump}, {"x1 i1:80000000 j5 x1 i1:80000000 r0", 3, api.ErrJump}, {"x1 i1:80000000 j1 x1 i1:80000000 j1", 7, api.ErrJump}, {"x1 i1:c0000000 j2 j9 x1 i1:80000000 r1", 4, api.ErrJump}, {"x1 i1:c0000000 j9 j9 x1 i1:80000000 r1", 3, api.ErrJump},
	// To a word of a map that looks like a block's first one.
	{"x1 i1:80000000 j4 x6 i6:80000000:01000001 r0 r1 r2", 3, api.ErrJump},
	// No jump leads there.
	{"x1 i1:80000000 r0 x1 i1:80000000 r0", 4, api.ErrUnused}, {"x1 i1:80000000 j5 x1 i1:80000000 r0 x1 i1:80000000 r0", 4, api.ErrUnused}, {"x1 i1:80000000 j1 x1 i1:80000000 r0 x1 i1:80000000 r0", 8, api.ErrUnused}, {"x1 i1:80000000 j5 x1 i1:80000000 j1 x1 i1:80000000 r0", 4, api.ErrUnused}, {"x1 i1:80000000 r0 x1 i1:80000000 j1 x1 i1:80000000 r0", 4, api.ErrUnused},
	// Where two are due: what stands further on, but in a point ahead.
	{"x1 i1:80000000 j9 x1", 5, api.ErrBounds}, {"x1 i1:80000000 j9 r0", 4, api.ErrOp}, {"x1 i1:80000000 r0 x1 i1:c0000000 r1 r1", 8, api.ErrMap}, {"x1 i1:80000000 r0 x1 i1:80000000 j1", 7, api.ErrJump},
	// In one block from the left: an entry that says the same ahead of one that lacks, an index of another N ahead of entries.
	{"x2 i2:e0000000 r1 r1", 4, api.ErrMap}, {"x2 i2:e0000000 r1 r1 x1", 4, api.ErrMap}, {"x2 i1:80000000 x1", 1, api.ErrMap}, {"x2 i2:e0000000 r1 x1 r1", 4, api.ErrOp},
}

func TestP1801Refused(t *testing.T) {
	for _, x := range refused {
		for _, family := range families {
			isRefused(t, family, codeOf(x.text), x.at, x.e)
			if _, at, e := codeBy(family, codeOf(x.text)); at != x.at || e != x.e {
				t.Errorf("%s: what the tests know is %d, %v", x.text, at, e)
			}
		}
	}
}

// TestP1801Family: any other one comes ahead of all else.
func TestP1801Family(t *testing.T) {
	codes := [][]byte{nil, {}, {4}, codeOf("r9"), codeOf("x1 i1:80000000 r0"), laid(chain(24, 24, 24, 24, 24, 8))}
	for _, x := range refused {
		codes = append(codes, codeOf(x.text))
	}
	for _, family := range noFamilies {
		for _, b := range codes {
			isRefused(t, family, b, 0, api.ErrFamily)
		}
	}
}

// TestP1801Cut: no code, and code that is not whole words, whatever its words are.
func TestP1801Cut(t *testing.T) {
	for _, family := range families {
		isRefused(t, family, nil, 0, api.ErrCut)
		isRefused(t, family, []byte{}, 0, api.ErrCut)
		for _, text := range []string{"r9", "r9 r9", "j1 j1", "x1 i1:c0000000 r0 r1 r2", "#ffffffff #00000000", "x1 i1:80000000 j1 x1 i1:80000000 r0 x1"} {
			b := codeOf(text)
			for size := range len(b) {
				if size%4 != 0 {
					isRefused(t, family, b[:size], 0, api.ErrCut)
				}
			}
		}
	}
}

// TestP1801Alone: each answer there is; and whatever stands behind it.
func TestP1801Alone(t *testing.T) {
	next := counter()
	for _, family := range families {
		for hop := range 65536 {
			b := bytesOf([]uint32{4<<24 | uint32(hop)})
			isTold(t, family, b, 0, 0, api.OK)
			isRefused(t, family, append(b, someBytes(next, 4*(1+hop%3))...), 1, api.ErrUnused)
		}
		for high := 1; high < 256; high++ {
			isRefused(t, family, []byte{4, byte(high), 0, 9}, 0, api.ErrOp)
			isRefused(t, family, []byte{4, byte(high), 0, 9, 4, 0, 0, 9}, 0, api.ErrOp)
		}
		isRefused(t, family, append(codeOf("r1"), laid(chain(steps(32)...))...), 1, api.ErrUnused)
	}
}

// place is one in a block: what stands there, and where.
type place struct {
	at   int
	part string
}

// twoBlocks is code of both kinds of entries, with the places of its instructions.
func twoBlocks() ([]uint32, []place) {
	words := wordsOf("x2 i2:f0000000 r1 j3 r2 j1 x6 i6:80000001:80000000 r7 r8 r9")
	return words, []place{{0, "x"}, {1, "i"}, {3, "rj"}, {4, "rj"}, {5, "rj"}, {6, "rj"}, {7, "x"}, {8, "i"}, {11, "rj"}, {12, "rj"}, {13, "rj"}}
}

// instead is code with other words in the place of the instruction at a place.
func instead(words []uint32, at int, text string) []byte {
	size := 1
	if words[at]>>24 == 2 {
		size += len(mapOf(int(words[at] % 256)))
	}
	return bytesOf(slices.Concat(words[:at], wordsOf(text), words[at+size:]))
}

// TestP1801EachInTheOthersPlace: in a block each instruction in the place of each other one.
func TestP1801EachInTheOthersPlace(t *testing.T) {
	words, places := twoBlocks()
	isTold(t, 32, bytesOf(words), 2, 0, api.OK)
	for _, p := range places {
		for _, text := range []string{"x1", "x2", "x6", "x24", "i1:80000000", "i2:f0000000", "i6:80000001:80000000", "j1", "j2", "j3", "j16777215", "r0", "r1", "r65535"} {
			b := instead(words, p.at, text)
			for _, family := range families {
				switch {
				case p.at == 0 && text[0] == 'r':
					isRefused(t, family, b, 1, api.ErrUnused)
				case !strings.Contains(p.part, text[:1]):
					isRefused(t, family, b, p.at, api.ErrOp)
				default:
					isToldByTheWords(t, family, b)
				}
			}
		}
	}
}

// TestP1801NoInstruction: code.Decode's errors at each place of a block, whatever should stand there.
func TestP1801NoInstruction(t *testing.T) {
	words, places := twoBlocks()
	for _, p := range places {
		for text, want := range map[string]api.Errno{
			"#00000000": api.ErrOp, "#05000001": api.ErrOp, "#ff000001": api.ErrOp, "#ffffffff": api.ErrOp, "#01010001": api.ErrOp, "#01000101": api.ErrOp, "#02010001 #80000000": api.ErrOp, "#02000101 #80000000": api.ErrOp, "#04010001": api.ErrOp, "#04ff0001": api.ErrOp, "#80000000": api.ErrOp,
			"x0": api.ErrArg, "x25": api.ErrArg, "x255": api.ErrArg, "i0:80000000": api.ErrArg, "i25:80000000": api.ErrArg, "i255:80000000": api.ErrArg, "j0": api.ErrArg,
			"i24": api.ErrBounds, "i23:80000000:00000000": api.ErrBounds, "i10:00000000": api.ErrBounds,
			"i1:00000000": api.ErrMap, "i1:40000000": api.ErrMap, "i1:e0000000": api.ErrMap, "i1:80000001": api.ErrMap, "i2:88000000": api.ErrMap, "i4:80008000": api.ErrMap, "i5:7fffffff": api.ErrMap, "i6:00000000:80000000": api.ErrMap,
		} {
			for _, family := range families {
				isRefused(t, family, instead(words, p.at, text), p.at, want)
			}
		}
	}
}

// TestP1801Ends: code that ends within a block, at each place; and behind one.
func TestP1801Ends(t *testing.T) {
	words, places := twoBlocks()
	ends := make([]int, len(words)+1) // where an instruction lacks, by how many words there are
	for k, p := range places {
		till := len(words)
		if k+1 < len(places) {
			till = places[k+1].at
		}
		for size := p.at; size < till; size++ {
			ends[size] = p.at
		}
	}
	for _, family := range families {
		for size := 1; size < len(words); size++ {
			b := bytesOf(words[:size])
			if size == 7 { // just behind the first block
				isRefused(t, family, b, 4, api.ErrJump)
				continue
			}
			isRefused(t, family, b, ends[size], api.ErrBounds)
		}
	}
}

// TestP1801OtherN: an index of each N behind an extract of each other one, in the first block and in the last.
func TestP1801OtherN(t *testing.T) {
	for taken := 1; taken <= 24; taken++ {
		for asked := 1; asked <= 24; asked++ {
			index := append([]uint32{1<<24 | uint32(taken), 2<<24 | uint32(asked)}, mapOf(asked, 0)...)
			b := bytesOf(append(index, wordsOf("r1")...))
			second := append(codeOf("x1 i1:80000000 j1"), b...)
			if taken == asked {
				isTold(t, 32, b, 1, 0, api.OK)
				isTold(t, 32, second, 2, 0, api.OK)
				continue
			}
			isRefused(t, 32, b, 1, api.ErrMap)
			isRefused(t, 32, second, 5, api.ErrMap)
		}
	}
}

// TestP1801SaysTheSame: at each entry of a block of very many; by an answer and by a jump.
func TestP1801SaysTheSame(t *testing.T) {
	const size = 64
	answers := func(k int) uint32 { return 4<<24 | uint32(k) }
	for _, twice := range []bool{false, true} {
		head := wordsOf("x6 i6:ffffffff:ffffffff")
		// Behind the first block stand as many others, of four words each, to which it jumps.
		first := len(head) + size
		jumps := func(k, to int) uint32 { return 3<<24 | uint32(first+4*to-len(head)-k) }
		for same := 1; same < size; same++ {
			plain, leading := slices.Clone(head), slices.Clone(head)
			for k := range size {
				say := k
				if twice && k == same {
					say = k - 1
				}
				plain, leading = append(plain, answers(say)), append(leading, jumps(k, say))
			}
			leading = append(leading, slices.Repeat(wordsOf("x1 i1:80000000 r1"), size)...)
			if !twice {
				isTold(t, 32, bytesOf(plain), 1, 0, api.OK)
				isTold(t, 32, bytesOf(leading), 2, 0, api.OK)
				break
			}
			isRefused(t, 32, bytesOf(plain), len(head)+same, api.ErrMap)
			isRefused(t, 32, bytesOf(leading), len(head)+same, api.ErrMap)
		}
	}
}

// TestP1801EachJump: of each jump of code of four blocks, to each word there is, and beyond.
func TestP1801EachJump(t *testing.T) {
	words := wordsOf("x2 i2:e0000000 j3 r1 j7 x2 i2:e0000000 r1 j2 j6 x1 i1:c0000000 r1 j1 x1 i1:80000000 r2")
	begins := []int{0, 6, 12, 17}
	isTold(t, 32, bytesOf(words), 4, 0, api.OK)
	for _, at := range []int{3, 5, 10, 11, 16} {
		for n := 1; n < 2*len(words); n++ {
			l := slices.Clone(words)
			l[at] = 3<<24 | uint32(n)
			for _, family := range families {
				e := isToldByTheWords(t, family, bytesOf(l))
				if leads := slices.Contains(begins, at+n); leads == (e == api.ErrJump) {
					t.Fatalf("P1801: a jump from %d to %d: %v", at, at+n, e)
				}
			}
		}
	}
}

// TestP1801Bits: ways that take just as many bits as the family has, and one more.
func TestP1801Bits(t *testing.T) {
	for _, family := range families {
		for _, bits := range []int{1, 2, 4, 8, 16} {
			just := slices.Repeat([]int{bits}, family/bits)
			isTold(t, family, laid(chain(just...)), family/bits, 0, api.OK)
			more := chain(append(just, 1)...)
			isRefused(t, family, laid(more), len(laid(more))/4-5, api.ErrBits)
		}
		for _, first := range []int{1, 8, 9, 23, 24} {
			rest := family - first
			var bits []int
			for ; rest > 24; rest -= 24 {
				bits = append(bits, 24)
			}
			just := slices.Concat([]int{first}, bits, []int{rest})
			isTold(t, family, laidShort(just), len(just), 0, api.OK)
			more := slices.Concat([]int{first}, bits, []int{min(rest, 23), max(1, rest-22)})
			at := len(laidShort(more[:len(more)-1])) / 4
			isRefused(t, family, laidShort(more), at, api.ErrBits)
		}
	}
}

// laidShort is the code of a chain in which each block has one entry.
func laidShort(bits []int) []byte {
	l := chain(bits...)
	for i := range l {
		l[i].Runs = l[i].Runs[:1]
	}
	return laid(l)
}

// TestP1801FirstBlock: of several blocks at which there are too few bits the first one is told, not the one that is met first on a way.
func TestP1801FirstBlock(t *testing.T) {
	for _, x := range []struct {
		text  string
		block int // that is told by 32; -1 for none
		depth int // by 32, if there is none; by 128
	}{
		// Met by several ways of unlike bits: the way of more bits has fewer blocks, or as many, or more; it comes first or last.
		{"1 0>1 1>2; 24 0>3; 8 0>3; 8 0=1", 3, 3}, {"1 0>1 1>2; 8 0>3; 24 0>3; 8 0=1", 3, 3}, {"1 0>1 1>2; 8 0>3; 23 0>3; 8 0=1", -1, 3}, {"1 0>1 1>2; 23 0>3; 8 0>3; 8 0=1", -1, 3},
		{"1 0>1 1>2; 1 0>3; 20 0>4; 1 0>4; 11 0=1", -1, 4}, {"1 0>1 1>2; 1 0>3; 20 0>4; 1 0>4; 12 0=1", 4, 4}, {"1 0>2 1>1; 20 0>4; 1 0>3; 1 0>4; 11 0=1", -1, 4}, {"1 0>2 1>1; 20 0>4; 1 0>3; 1 0>4; 12 0=1", 4, 4},
		{"2 0>1 1>4 2>3; 1 0>2; 1 0>3; 1 0>4; 20 0=1", -1, 5}, {"20 0>4 1>3 2>1; 1 0>2; 1 0>3; 1 0>4; 9 0=1", -1, 5}, {"20 0>4 1>3 2>1; 1 0>2; 1 0>3; 1 0>4; 10 0=1", 4, 5},
		// Straight to it, and by one more.
		{"20 0>1 1>2; 1 0>2; 12 0=1", 2, 3}, {"20 0>1 1>2; 1 0>2; 11 0=1", -1, 3}, {"20 0>2 1>1; 1 0>2; 12 0=1", 2, 3},
		// Several at which there are too few; the first one stands behind a longer way.
		{"20 0>2 1>1; 13 0=1; 13 0=2", 1, 2}, {"20 0>1 1>2; 12 0=1; 13 0=2", 2, 2}, {"20 0>1 1>2; 13 0=1; 13 0=2", 1, 2}, {"20 0>1 1>3; 12 0>2; 1 0=1; 13 0=1", 2, 3}, {"20 0>2 1>1; 12 0>3; 13 0=1; 1 0=1", 2, 3}, {"20 0>2 1>1; 12 0>3; 12 0>3; 1 0=1", 3, 3},
		// All behind it, too: the first one is told.
		{"20 0>1; 12 0>2; 1 0>3; 1 0>4; 1 0=1", 2, 5},
	} {
		b := laid(nodesOf(x.text))
		isTold(t, 128, b, x.depth, 0, api.OK)
		if x.block < 0 {
			isTold(t, 32, b, x.depth, 0, api.OK)
			continue
		}
		pieces, _, _ := piecesBy(b)
		isRefused(t, 32, b, pieces[x.block].at, api.ErrBits)
	}
}

// TestP1801Depth: of right lists, laid in the order in which they stand, by both families.
func TestP1801Depth(t *testing.T) {
	for _, family := range families {
		for _, l := range samples(family) {
			b := laid(l)
			depth, _, _ := codeBy(family, b)
			isTold(t, family, b, depth, 0, api.OK)
			isToldByTheWords(t, 160-family, b)
		}
	}
}

// TestP1801ManyWays: more ways than anybody could go down.
func TestP1801ManyWays(t *testing.T) {
	isTold(t, 32, laid(doubling(16)), 16, 0, api.OK)
	isTold(t, 128, laid(doubling(64)), 64, 0, api.OK)
	isRefused(t, 128, laid(doubling(65)), 6*64, api.ErrBits)
	isRefused(t, 32, laid(doubling(10000)), 6*16, api.ErrBits)
}

// TestP1801Small: all codes of instructions of a few kinds, as far as they may go on.
func TestP1801Small(t *testing.T) {
	kinds := []string{"x1", "x2", "i1:80000000", "i1:c0000000", "i2:a0000000", "r0", "r1", "j1", "j2", "j5", "j6", "#00000000"}
	seen := map[api.Errno]int{}
	var lay func(words []uint32, left int)
	lay = func(words []uint32, left int) {
		b := bytesOf(words)
		e := isToldByTheWords(t, 32, b)
		seen[e]++
		// Where a fault stands ahead of the end, what is behind it can change nothing.
		if left == 0 || e == api.ErrOp || e == api.ErrMap || len(words) > 1 && words[0]>>24 == 4 {
			return
		}
		for _, text := range kinds {
			lay(append(words[:len(words):len(words)], wordsOf(text)...), left-1)
		}
	}
	lay(nil, 11)
	for _, e := range []api.Errno{api.OK, api.ErrCut, api.ErrUnused, api.ErrOp, api.ErrMap, api.ErrBounds, api.ErrJump} {
		if seen[e] == 0 {
			t.Errorf("no code of %v among %v", e, seen)
		}
	}
}

// TestP1801SpoiltAsTheChapterSays: of code without a pattern, most of it such that it may not be run.
func TestP1801SpoiltAsTheChapterSays(t *testing.T) {
	next := counter()
	seen := map[api.Errno]int{}
	for range 20000 {
		b := laid(one(next, someList(next, 128), someList(next, 128), someChain(next)))
		for range 1 + upTo(next, 2) {
			if len(b) >= 4 {
				b = spoil(next, b)
			}
		}
		for _, family := range []int{32, 128, 64} {
			seen[isToldByTheWords(t, family, b)]++
		}
	}
	for _, e := range []api.Errno{api.OK, api.ErrFamily, api.ErrCut, api.ErrUnused, api.ErrBounds, api.ErrOp, api.ErrArg, api.ErrMap, api.ErrJump, api.ErrBits} {
		if seen[e] < 100 {
			t.Errorf("only %d codes of %v", seen[e], e)
		}
	}
}

// TestP1801AnyBytes: bytes without a pattern; and such that begin as a block does.
func TestP1801AnyBytes(t *testing.T) {
	next := counter()
	for range 50000 {
		b := someBytes(next, upTo(next, 40))
		isToldByTheWords(t, one(next, 32, 128, 33), b)
		isToldByTheWords(t, 32, append(codeOf(one(next, "x1", "x1 i1:c0000000", "x2 i2:f0000000 r1", "x1 i1:80000000 j1", "x1 i1:80000000 r1")), b...))
	}
}
