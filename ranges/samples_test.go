package ranges

import (
	"math"
	"math/big"
	"math/bits"
	"slices"
	"strconv"
	"strings"
	"testing"

	"turnpike/addr"
	"turnpike/api"
	"turnpike/prefix"
)

var (
	families = []int{32, 128}
	// noFamilies are numbers that are no family, those beside one and far off among them.
	noFamilies = []int{math.MinInt, -128, -32, -1, 0, 1, 8, 16, 31, 33, 64, 96, 127, 129, 160, 256, math.MaxInt}
	lastSix    = api.Word{Hi: math.MaxUint64, Lo: math.MaxUint64}
)

// spell writes the first n bits of a word as signs 0 and 1. What the document says of ranges is said of such texts by the library's strings: the tests hold the one against the other.
func spell(w api.Word, n int) string {
	b := make([]byte, n)
	for i := range n {
		half, at := w.Hi, 63-i
		if i >= 64 {
			half, at = w.Lo, 127-i
		}
		b[i] = '0' + byte(half>>at&1)
	}
	return string(b)
}

// ofBits is the word that begins with these bits.
func ofBits(s string) api.Word {
	var w api.Word
	for i := range len(s) {
		if s[i] == '0' {
			continue
		}
		if i < 64 {
			w.Hi |= 1 << (63 - i)
		} else {
			w.Lo |= 1 << (127 - i)
		}
	}
	return w
}

// made is the prefix of these bits.
func made(s string) api.Prefix {
	return api.Prefix{Addr: ofBits(s), Len: len(s)}
}

func allMade(texts []string) []api.Prefix {
	var l []api.Prefix
	for _, s := range texts {
		l = append(l, made(s))
	}
	return l
}

// fill makes a text as long as an address by more signs of one kind.
func fill(s string, family int, sign string) string {
	return s + strings.Repeat(sign, family-len(s))
}

// firstOf, lastOf are the ends of what the prefix of these bits has.
func firstOf(family int, s string) api.Word { return ofBits(fill(s, family, "0")) }
func lastOf(family int, s string) api.Word  { return ofBits(fill(s, family, "1")) }

// number is an address's bits as a number.
func number(s string) *big.Int {
	n, ok := new(big.Int).SetString(s, 2)
	if !ok {
		panic("no bits: " + s)
	}
	return n
}

// costOf is a number as three of 64 bits, the highest first.
func costOf(n *big.Int) api.Cost {
	part := func(shift uint) uint64 {
		x := new(big.Int).Rsh(n, shift)
		return x.And(x, new(big.Int).SetUint64(math.MaxUint64)).Uint64()
	}
	return api.Cost{part(128), part(64), part(0)}
}

// counter makes numbers without a pattern, always the same ones.
func counter() func() uint64 {
	x := uint64(0x9e3779b97f4a7c15)
	return func() uint64 {
		x ^= x << 13
		x ^= x >> 7
		x ^= x << 17
		return x
	}
}

// mixed is the list in another order.
func mixed[T any](l []T, next func() uint64) []T {
	l = slices.Clone(l)
	for i := len(l) - 1; i > 0; i-- {
		k := int(next() % uint64(i+1))
		l[i], l[k] = l[k], l[i]
	}
	return l
}

// roots are where small trees stand: over all addresses, at both ends, in between, and over the edge of a word's halves. Each leaves 5 bits at least.
func roots(family int) []string {
	l := []string{"", "0", "1", fill("", family-5, "0"), fill("", family-5, "1"), fill("", family-8, "0") + "101", "00001010"}
	if family == 128 {
		l = append(l, strings.Repeat("01", 31), strings.Repeat("1", 62), strings.Repeat("0", 61)+"1", strings.Repeat("110", 30))
	}
	return l
}

// The small tree: its node 1 is the root, the kids of node i are 2i and 2i + 1; nodes 8 to 15 are its eight leaves.
const (
	nodes  = 15
	leaves = 8
)

// below tells the bits of a node behind the root's.
func below(node int) string {
	return strconv.FormatInt(int64(node), 2)[1:]
}

// leavesOf tells which leaves lie within a node, a bit each.
func leavesOf(node int) int {
	if node >= leaves {
		return 1 << (node - leaves)
	}
	return leavesOf(2*node) | leavesOf(2*node+1)
}

// nodesOf tells the nodes of a set, and which leaves they have together. Bit i is node i + 1.
func nodesOf(set int) (texts []string, mask int) {
	for i := range nodes {
		if set>>i&1 == 1 {
			texts = append(texts, below(i+1))
			mask |= leavesOf(i + 1)
		}
	}
	return texts, mask
}

// fewest tells, for each set of leaves, the smallest set of nodes that has just these; all sets of nodes are tried. As bits that are read from the front their order is that of prefixes.
func fewest(t *testing.T) [1 << leaves][]string {
	t.Helper()
	var best [1 << leaves]int
	var alike [1 << leaves]int
	for set := range 1 << nodes {
		_, mask := nodesOf(set)
		switch n := bits.OnesCount(uint(set)); {
		case alike[mask] == 0 || n < bits.OnesCount(uint(best[mask])):
			best[mask], alike[mask] = set, 1
		case n == bits.OnesCount(uint(best[mask])):
			alike[mask]++
		}
	}
	var l [1 << leaves][]string
	for mask, set := range best {
		if alike[mask] != 1 {
			t.Fatalf("of the leaves %08b there are %d smallest sets", mask, alike[mask])
		}
		l[mask], _ = nodesOf(set)
		slices.Sort(l[mask])
	}
	return l
}

// under puts texts behind a root.
func under(root string, texts []string) []api.Prefix {
	var l []api.Prefix
	for _, s := range texts {
		l = append(l, made(root+s))
	}
	return l
}

// read4, read6 read prefixes as they are written.
func read4(texts ...string) []api.Prefix { return readAll(32, texts) }
func read6(texts ...string) []api.Prefix { return readAll(128, texts) }

func readAll(family int, texts []string) []api.Prefix {
	var l []api.Prefix
	for _, s := range texts {
		p, e := prefix.Parse(family, s)
		if e != api.OK {
			panic("no prefix: " + s)
		}
		l = append(l, p)
	}
	return l
}

// word4, word6 read addresses.
func word4(s string) api.Word { return readWord(32, s) }
func word6(s string) api.Word { return readWord(128, s) }

func readWord(family int, s string) api.Word {
	w, e := addr.Parse(family, s)
	if e != api.OK {
		panic("no address: " + s)
	}
	return w
}

func TestSamplesAreSound(t *testing.T) {
	if made("00001010") != read4("10.0.0.0/8")[0] || made("0010000000000001") != read6("2001::/16")[0] {
		t.Error("a prefix is not made as it is")
	}
	if lastOf(32, "00001010") != word4("10.255.255.255") || firstOf(128, "1") != word6("8000::") || lastOf(128, "") != lastSix {
		t.Error("an end is not spelt as it is")
	}
	if costOf(new(big.Int).Lsh(big.NewInt(1), 128)) != (api.Cost{1, 0, 0}) || costOf(number("101")) != (api.Cost{0, 0, 5}) {
		t.Error("a number is not as it is")
	}
	if below(1) != "" || below(15) != "111" || below(5) != "01" || leavesOf(1) != 255 || leavesOf(3) != 0xf0 {
		t.Error("the small tree is not as it is")
	}
	l := fewest(t)
	if len(l[0]) != 0 || !slices.Equal(l[255], []string{""}) || !slices.Equal(l[0b01111110], []string{"001", "01", "10", "110"}) {
		t.Error("the smallest sets are not as they are")
	}
	for _, family := range families {
		for _, root := range roots(family) {
			if len(root) > family-5 || strings.Trim(root, "01") != "" {
				t.Errorf("%q is no root", root)
			}
		}
	}
}
