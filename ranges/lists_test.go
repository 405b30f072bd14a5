package ranges

import (
	"math"
	"math/big"
	"math/bits"
	"slices"
	"strings"
	"testing"

	"turnpike/api"
)

// tells asks that the three calls of a list answer these.
func tells(t *testing.T, family int, l, few []api.Prefix, rows []api.Seg, count *big.Int) {
	t.Helper()
	if got, e := Merge(family, l); e != api.OK || !slices.Equal(got, few) {
		t.Fatalf("P402: Merge(%d, %v) = %v, %v, want %v", family, l, got, e, few)
	}
	if got, e := Rows(family, l); e != api.OK || !slices.Equal(got, rows) {
		t.Fatalf("P403: Rows(%d, %v) = %v, %v, want %v", family, l, got, e, rows)
	}
	if got, e := Count(family, l); e != api.OK || got != costOf(count) {
		t.Fatalf("P404: Count(%d, %v) = %v, %v, want %v", family, l, got, e, count)
	}
}

// row4, row6 are a range as it is written.
func row4(first, last string) api.Seg { return api.Seg{First: word4(first), Last: word4(last), Hop: 1} }
func row6(first, last string) api.Seg { return api.Seg{First: word6(first), Last: word6(last), Hop: 1} }

// power is 2^n.
func power(n int) *big.Int { return new(big.Int).Lsh(big.NewInt(1), uint(n)) }

func TestP402To404ByHand4(t *testing.T) {
	for _, x := range []struct {
		l, few []api.Prefix
		rows   []api.Seg
		count  int64
	}{
		{read4("10.0.0.0/9", "10.128.0.0/9", "10.1.0.0/16"), read4("10.0.0.0/8"), []api.Seg{row4("10.0.0.0", "10.255.255.255")}, 1 << 24},
		{read4("10.0.0.0/8"), read4("10.0.0.0/8"), []api.Seg{row4("10.0.0.0", "10.255.255.255")}, 1 << 24},
		// One that stands there twice, one within another one, in either order.
		{read4("10.0.0.0/8", "10.0.0.0/8"), read4("10.0.0.0/8"), []api.Seg{row4("10.0.0.0", "10.255.255.255")}, 1 << 24},
		{read4("10.0.0.0/16", "10.0.0.0/8"), read4("10.0.0.0/8"), []api.Seg{row4("10.0.0.0", "10.255.255.255")}, 1 << 24},
		{read4("10.0.0.0/8", "10.255.255.255/32", "11.0.0.0/32"), read4("10.0.0.0/8", "11.0.0.0/32"), []api.Seg{row4("10.0.0.0", "11.0.0.0")}, 1<<24 + 1},
		// Beside one another, but no siblings.
		{read4("0.0.0.1/32", "0.0.0.2/32"), read4("0.0.0.1/32", "0.0.0.2/32"), []api.Seg{row4("0.0.0.1", "0.0.0.2")}, 2},
		{read4("11.0.0.0/9", "10.128.0.0/9"), read4("10.128.0.0/9", "11.0.0.0/9"), []api.Seg{row4("10.128.0.0", "11.127.255.255")}, 1 << 24},
		{read4("10.0.0.0/9", "10.128.0.0/10"), read4("10.0.0.0/9", "10.128.0.0/10"), []api.Seg{row4("10.0.0.0", "10.191.255.255")}, 3 << 22},
		// An address, and no more, lies between.
		{read4("0.0.0.1/32", "0.0.0.3/32"), read4("0.0.0.1/32", "0.0.0.3/32"), []api.Seg{row4("0.0.0.1", "0.0.0.1"), row4("0.0.0.3", "0.0.0.3")}, 2},
		// The last address is not beside the first one.
		{read4("255.255.255.255/32", "0.0.0.0/32"), read4("0.0.0.0/32", "255.255.255.255/32"), []api.Seg{row4("0.0.0.0", "0.0.0.0"), row4("255.255.255.255", "255.255.255.255")}, 2},
		{read4("0.0.0.0/0"), read4("0.0.0.0/0"), []api.Seg{row4("0.0.0.0", "255.255.255.255")}, 1 << 32},
		{read4("128.0.0.0/1", "0.0.0.0/1"), read4("0.0.0.0/0"), []api.Seg{row4("0.0.0.0", "255.255.255.255")}, 1 << 32},
		{read4("255.255.255.255/32", "0.0.0.0/0", "0.0.0.0/32"), read4("0.0.0.0/0"), []api.Seg{row4("0.0.0.0", "255.255.255.255")}, 1 << 32},
		{read4("128.0.0.0/1"), read4("128.0.0.0/1"), []api.Seg{row4("128.0.0.0", "255.255.255.255")}, 1 << 31},
	} {
		tells(t, 32, x.l, x.few, x.rows, big.NewInt(x.count))
	}
}

func TestP402To404ByHand6(t *testing.T) {
	all := row6("::", "ffff:ffff:ffff:ffff:ffff:ffff:ffff:ffff")
	for _, x := range []struct {
		l, few []api.Prefix
		rows   []api.Seg
		count  *big.Int
	}{
		{read6("::/0"), read6("::/0"), []api.Seg{all}, power(128)},
		{read6("8000::/1", "::/1"), read6("::/0"), []api.Seg{all}, power(128)},
		{read6("8000::/1"), read6("8000::/1"), []api.Seg{row6("8000::", "ffff:ffff:ffff:ffff:ffff:ffff:ffff:ffff")}, power(127)},
		{read6("2001:db8::/32", "2001:db9::/32"), read6("2001:db8::/31"), []api.Seg{row6("2001:db8::", "2001:db9:ffff:ffff:ffff:ffff:ffff:ffff")}, power(97)},
		{read6("2001:db9::/32", "2001:dba::/32"), read6("2001:db9::/32", "2001:dba::/32"), []api.Seg{row6("2001:db9::", "2001:dba:ffff:ffff:ffff:ffff:ffff:ffff")}, power(97)},
		// Beside one another over the edge of a word's halves.
		{read6("0:0:0:1::/128", "::ffff:ffff:ffff:ffff/128"), read6("::ffff:ffff:ffff:ffff/128", "0:0:0:1::/128"), []api.Seg{row6("::ffff:ffff:ffff:ffff", "0:0:0:1::")}, big.NewInt(2)},
		{read6("::/64", "0:0:0:1::/64"), read6("::/63"), []api.Seg{row6("::", "0:0:0:1:ffff:ffff:ffff:ffff")}, power(65)},
		{read6("::/65", "::8000:0:0:0/65", "::1/128"), read6("::/64"), []api.Seg{row6("::", "::ffff:ffff:ffff:ffff")}, power(64)},
		{read6("::/64", "1::/128"), read6("::/64", "1::/128"), []api.Seg{row6("::", "::ffff:ffff:ffff:ffff"), row6("1::", "1::")}, new(big.Int).Add(power(64), big.NewInt(1))},
	} {
		tells(t, 128, x.l, x.few, x.rows, x.count)
	}
	if c, e := Count(128, read6("::/0")); e != api.OK || c != (api.Cost{1, 0, 0}) {
		t.Errorf("Count of all = %v, %v", c, e)
	}
}

func TestP402To404OfNoPrefixes(t *testing.T) {
	for _, family := range families {
		for _, l := range [][]api.Prefix{nil, {}, make([]api.Prefix, 0, 4)} {
			tells(t, family, l, nil, nil, new(big.Int))
		}
	}
}

func TestP402To404OfOne(t *testing.T) {
	for _, family := range families {
		for _, s := range someEnds(family) {
			for n := range family + 1 {
				one := []api.Prefix{made(s[:n])}
				rows := []api.Seg{{First: firstOf(family, s[:n]), Last: lastOf(family, s[:n]), Hop: 1}}
				tells(t, family, one, one, rows, power(family-n))
				tells(t, family, append(one, one[0], one[0]), one, rows, power(family-n))
			}
		}
	}
}

// TestP402To404OfSiblings: of every length, in either order, also with others within them.
func TestP402To404OfSiblings(t *testing.T) {
	for _, family := range families {
		for _, s := range someEnds(family) {
			for n := range family {
				up := s[:n]
				rows := []api.Seg{{First: firstOf(family, up), Last: lastOf(family, up), Hop: 1}}
				few := []api.Prefix{made(up)}
				for _, l := range [][]string{{up + "0", up + "1"}, {up + "1", up + "0"}, {s, up + "1", up + "0", fill(up, family, "1")}} {
					tells(t, family, allMade(l), few, rows, power(family-n))
				}
			}
		}
	}
}

// TestP402To404ThatFoldUp: one prefix of each length, each the sibling of what those behind it make together.
func TestP402To404ThatFoldUp(t *testing.T) {
	next := counter()
	for _, family := range families {
		for _, s := range []string{fill("", family, "0"), fill("", family, "1"), spell(api.Word{Hi: next(), Lo: next()}, family)} {
			l := []string{s}
			for n := range family {
				l = append(l, s[:n]+string('0'+'1'-rune(s[n])))
			}
			rows := []api.Seg{{First: api.Word{}, Last: lastOf(family, ""), Hop: 1}}
			for range 3 {
				tells(t, family, allMade(l), []api.Prefix{{}}, rows, power(family))
				l = mixed(l, next)
			}
			// Where s itself lacks, no two are left of which one could be made.
			rest := slices.DeleteFunc(l, func(x string) bool { return x == s })
			few, e := Merge(family, allMade(rest))
			slices.Sort(rest)
			if e != api.OK || !slices.Equal(few, allMade(rest)) {
				t.Errorf("all but %s: %v, %v", s, few, e)
			}
		}
	}
}

// rowsOf tells the rows of leaves.
func rowsOf(family int, root string, mask int) []api.Seg {
	var l []api.Seg
	for i := range leaves {
		if mask>>i&1 == 0 {
			continue
		}
		leaf := root + below(leaves+i)
		if i == 0 || mask>>(i-1)&1 == 0 {
			l = append(l, api.Seg{First: firstOf(family, leaf), Hop: 1})
		}
		l[len(l)-1].Last = lastOf(family, leaf)
	}
	return l
}

// TestP402To404OfAllSets: every list of nodes of a small tree, held against the smallest one that has the same leaves.
func TestP402To404OfAllSets(t *testing.T) {
	best := fewest(t)
	next := counter()
	for _, family := range families {
		trees := roots(family)
		for i, root := range trees {
			// Each tree takes its share of the sets: together they take all.
			for set := i; set < 1<<nodes; set += len(trees) {
				texts, mask := nodesOf(set)
				l := mixed(under(root, texts), next)
				if len(l) > 0 && next()%2 == 0 {
					l = append(l, l[0])
				}
				count := new(big.Int).Mul(big.NewInt(int64(bits.OnesCount(uint(mask)))), power(family-len(root)-3))
				tells(t, family, l, under(root, best[mask]), rowsOf(family, root, mask), count)
			}
		}
	}
}

// folded tells the fewest of texts within a node, from the leaves upwards.
func folded(node string, l []string) []string {
	if len(l) == 0 || slices.Contains(l, node) {
		return []string{node}[:min(len(l), 1)]
	}
	var low, high []string
	for _, s := range l {
		if s[len(node)] == '0' {
			low = append(low, s)
		} else {
			high = append(high, s)
		}
	}
	low, high = folded(node+"0", low), folded(node+"1", high)
	if slices.Equal(low, []string{node + "0"}) && slices.Equal(high, []string{node + "1"}) {
		return []string{node}
	}
	return append(low, high...)
}

// stretch is a range of numbers.
type stretch struct{ first, last *big.Int }

// stretches tells the longest ranges of what texts have, by numbers.
func stretches(family int, l []string) []stretch {
	var all, out []stretch
	for _, s := range l {
		all = append(all, stretch{number(fill(s, family, "0")), number(fill(s, family, "1"))})
	}
	slices.SortFunc(all, func(a, b stretch) int { return a.first.Cmp(b.first) })
	for _, s := range all {
		if n := len(out); n > 0 && new(big.Int).Sub(s.first, out[n-1].last).Cmp(big.NewInt(1)) <= 0 {
			if s.last.Cmp(out[n-1].last) > 0 {
				out[n-1].last = s.last
			}
			continue
		}
		out = append(out, s)
	}
	return out
}

// asNumbers asks the three calls of texts, and holds them against strings and numbers of the library.
func asNumbers(t *testing.T, family int, texts []string) {
	t.Helper()
	var rows []api.Seg
	count := new(big.Int)
	for _, s := range stretches(family, texts) {
		first, last := s.first.Text(2), s.last.Text(2)
		row := api.Seg{First: ofBits(strings.Repeat("0", family-len(first)) + first), Last: ofBits(strings.Repeat("0", family-len(last)) + last), Hop: 1}
		rows = append(rows, row)
		count.Add(count, new(big.Int).Sub(s.last, s.first)).Add(count, big.NewInt(1))
	}
	tells(t, family, allMade(texts), allMade(folded("", texts)), rows, count)
}

// someLists are lists without a pattern: thin ones over all addresses, and thick ones in few of them.
func someLists(family int) [][]string {
	next := counter()
	var l [][]string
	for i := range 150 {
		root := ""
		if i%3 > 0 {
			root = spell(api.Word{Hi: next(), Lo: next()}, int(next()%uint64(family-7)))
		}
		var texts []string
		for range next() % 60 {
			more := int(next() % 8)
			if i%3 == 2 {
				more = int(next() % uint64(family-len(root)+1))
			}
			texts = append(texts, root+spell(api.Word{Hi: next(), Lo: next()}, more))
		}
		if i%2 == 0 {
			// What has the root itself, or most of it, says little of the others.
			texts = slices.DeleteFunc(texts, func(s string) bool { return len(s) < len(root)+4 })
		}
		l = append(l, texts)
	}
	return l
}

func TestP402To404WithoutAPattern(t *testing.T) {
	for _, family := range families {
		for _, texts := range someLists(family) {
			asNumbers(t, family, texts)
		}
	}
}

// orders calls f with the list in every order.
func orders(l []api.Prefix, at int, f func()) {
	if at == len(l) {
		f()
		return
	}
	for i := at; i < len(l); i++ {
		l[at], l[i] = l[i], l[at]
		orders(l, at+1, f)
		l[at], l[i] = l[i], l[at]
	}
}

func TestP402To404InEveryOrder(t *testing.T) {
	l := read4("10.0.0.0/9", "10.128.0.0/9", "10.1.0.0/16", "11.0.0.0/32", "11.0.0.1/32", "9.0.0.0/8")
	rows := []api.Seg{row4("9.0.0.0", "11.0.0.1")}
	orders(l, 0, func() {
		tells(t, 32, l, read4("9.0.0.0/8", "10.0.0.0/8", "11.0.0.0/31"), rows, big.NewInt(2<<24+2))
	})
	six := read6("::/1", "8000::/2", "::/0", "::/0", "ffff::/16")
	orders(six, 0, func() {
		tells(t, 128, six, read6("::/0"), []api.Seg{{Last: lastSix, Hop: 1}}, power(128))
	})
}

// TestP402To404OfVeryMany: whole addresses, all of a prefix, every second one, all but one.
func TestP402To404OfVeryMany(t *testing.T) {
	const more = 16
	next := counter()
	for _, family := range families {
		root := fill("1010", family-more, "0")
		var all, even []string
		for n := range 1 << more {
			s := root + spell(api.Word{Hi: uint64(n) << (64 - more)}, more)
			all = append(all, s)
			if n%2 == 0 {
				even = append(even, s)
			}
		}
		whole := []api.Seg{{First: firstOf(family, root), Last: lastOf(family, root), Hop: 1}}
		tells(t, family, mixed(allMade(all), next), []api.Prefix{made(root)}, whole, power(more))
		var rows []api.Seg
		for _, s := range even {
			rows = append(rows, api.Seg{First: ofBits(s), Last: ofBits(s), Hop: 1})
		}
		tells(t, family, mixed(allMade(even), next), allMade(even), rows, power(more-1))
		hole := 12345
		lack := append(slices.Clone(all[:hole]), all[hole+1:]...)
		rows = []api.Seg{{First: ofBits(all[0]), Last: ofBits(all[hole-1]), Hop: 1}, {First: ofBits(all[hole+1]), Last: ofBits(all[len(all)-1]), Hop: 1}}
		few := append(parted("", all[0], all[hole-1]), parted("", all[hole+1], all[len(all)-1])...)
		tells(t, family, mixed(allMade(lack), next), allMade(few), rows, big.NewInt(1<<more-1))
	}
}

// refusesList asks that the three calls answer the error, and nothing beside it.
func refusesList(t *testing.T, family int, l []api.Prefix, want api.Errno) {
	t.Helper()
	if got, e := Merge(family, l); e != want || len(got) != 0 {
		t.Fatalf("P402: Merge(%d, %v) = %v, %v, want %v", family, l, got, e, want)
	}
	if got, e := Rows(family, l); e != want || len(got) != 0 {
		t.Fatalf("P403: Rows(%d, %v) = %v, %v, want %v", family, l, got, e, want)
	}
	if got, e := Count(family, l); e != want || got != (api.Cost{}) {
		t.Fatalf("P404: Count(%d, %v) = %v, %v, want %v", family, l, got, e, want)
	}
}

func TestP402To404NoFamily(t *testing.T) {
	for _, family := range noFamilies {
		// Nothing in the list, nor that it is empty, is ahead of the family.
		for _, l := range [][]api.Prefix{nil, {}, {{}}, {{}, {Len: -1}}, {{Len: 300}}, {{Addr: lastSix, Len: 1}}, read4("10.0.0.0/8"), read6("1::/128")} {
			refusesList(t, family, l, api.ErrFamily)
		}
	}
}

// wrongs are prefixes of a family that are none, each with its error.
func wrongs(family int) map[api.Prefix]api.Errno {
	l := map[api.Prefix]api.Errno{}
	for _, n := range []int{math.MinInt, -129, -1, family + 1, 129, 300, math.MaxInt} {
		// These have bits behind the length as well, but the first: ErrLen is ahead of ErrHost.
		for _, w := range []api.Word{{}, {Lo: 1}, {Hi: 1 << 63}, lastSix} {
			l[api.Prefix{Addr: w, Len: n}] = api.ErrLen
		}
	}
	for n := range family {
		l[api.Prefix{Addr: ofBits(fill("", n, "0") + "1"), Len: n}] = api.ErrHost
		l[api.Prefix{Addr: lastOf(family, ""), Len: n}] = api.ErrHost
	}
	if family == 32 {
		for i := 32; i < 128; i++ {
			l[api.Prefix{Addr: ofBits(strings.Repeat("0", i) + "1"), Len: 32}] = api.ErrHost
		}
		l[api.Prefix{Len: 128}] = api.ErrLen
	}
	return l
}

func TestP402To404WithAWrongPrefix(t *testing.T) {
	for _, family := range families {
		ten := made("00001010")
		for p, want := range wrongs(family) {
			// It may stand anywhere, and within another one, and twice.
			for _, l := range [][]api.Prefix{{p}, {p, ten}, {ten, p}, {{}, p}, {ten, ten, p}, {ten, p, {}}, {p, p}, {made("1"), made("0"), ten, p, ten}} {
				refusesList(t, family, l, want)
			}
			many := slices.Repeat([]api.Prefix{ten}, 1000)
			refusesList(t, family, append(many, p), want)
		}
	}
}

func TestP402To404WithSeveralWrongPrefixes(t *testing.T) {
	for _, family := range families {
		long, host := api.Prefix{Len: family + 1}, api.Prefix{Addr: api.Word{Hi: 1 << 32}, Len: 8}
		short := api.Prefix{Addr: lastSix, Len: -1}
		for _, x := range []struct {
			l    []api.Prefix
			want api.Errno
		}{
			{[]api.Prefix{long, host}, api.ErrLen}, {[]api.Prefix{host, long}, api.ErrHost},
			{[]api.Prefix{{}, short, host}, api.ErrLen}, {[]api.Prefix{{}, host, short}, api.ErrHost},
			{[]api.Prefix{made("1"), made("01"), host, long, host}, api.ErrHost},
			{[]api.Prefix{made("1"), made("01"), long, host, long}, api.ErrLen},
		} {
			refusesList(t, family, x.l, x.want)
		}
	}
}

func TestP402To404OfTheOtherFamily(t *testing.T) {
	refusesList(t, 32, read6("2001:db8::/33"), api.ErrLen)
	refusesList(t, 32, []api.Prefix{{}, {Addr: word6("2001:db8:1::"), Len: 32}}, api.ErrHost)
	// What is right by 32 is right by 128 too, but has other addresses.
	tells(t, 128, read4("10.0.0.0/8", "11.0.0.0/8"), read6("a00::/7"), []api.Seg{row6("a00::", "bff:ffff:ffff:ffff:ffff:ffff:ffff:ffff")}, power(121))
}
