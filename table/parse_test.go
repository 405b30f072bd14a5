package table

import (
	"slices"
	"strconv"
	"strings"
	"testing"

	"turnpike/api"
	"turnpike/prefix"
)

// reads asks that a text is read as this table.
func reads(t *testing.T, family int, text string, want []api.Route) {
	t.Helper()
	got, f := Parse(family, text)
	if f != (api.Fault{}) || got.W != family || !slices.Equal(got.Routes, want) {
		t.Fatalf("P501: Parse(%d, %q) = %v, %v, want %v", family, text, got, f, want)
	}
}

// faults asks that a text has this fault, and that nothing stands beside it.
func faults(t *testing.T, family int, text string, e api.Errno, line, col int) {
	t.Helper()
	got, f := Parse(family, text)
	if want := (api.Fault{Err: e, Line: line, Col: col}); f != want || got.W != 0 || len(got.Routes) != 0 {
		t.Fatalf("P501: Parse(%d, %.200q) = %v, %v, want %v", family, text, got, f, want)
	}
}

func TestP501ByHand(t *testing.T) {
	ten := []api.Route{route4("10.0.0.0/8", 1)}
	two := []api.Route{route4("10.0.0.0/8", 3), route4("10.1.0.0/16", 2)}
	for _, x := range []struct {
		text string
		want []api.Route
	}{
		{"10.0.0.0/8 1 # ten\n10.1.0.0/16 2\n10.0.0.0/8 3", two},
		{"10.0.0.0/8 1", ten}, {"10.0.0.0/8 1\n", ten}, {"\n10.0.0.0/8 1", ten}, {"\n\n\n10.0.0.0/8 1\n\n\n", ten},
		{" \t 10.0.0.0/8 \t\t 1\t ", ten}, {"\t10.0.0.0/8\t1\t\n\t", ten},
		// A remark: at a line's beginning, right behind a word, behind the last one, of nothing, with a remark in it.
		{"# ten\n10.0.0.0/8 1", ten}, {"10.0.0.0/8 1#", ten}, {"10.0.0.0/8 1# x y z", ten}, {"10.0.0.0/8 1 #\n#", ten},
		{"#10.1.0.0/16 2\n10.0.0.0/8 1#0\n \t#\n# # #\n", ten}, {"10.0.0.0/8 1 # #\n\t# 10.0.0.0/8 0", ten},
		// What stands in a remark is no word, whatever it is.
		{"10.0.0.0/8 1 # \x00\r\xff\v 10.0.0.0/8\t0 x", ten},
		// Lines without words only.
		{"", nil}, {"\n", nil}, {" ", nil}, {"\t", nil}, {"#", nil}, {" \t \n\t\n  \n\n", nil}, {"# 10.0.0.0/8 1", nil}, {" # x\n#\n", nil},
		{"0.0.0.0/0 1", []api.Route{{Hop: 1}}}, {"255.255.255.255/32 65535", []api.Route{route4("255.255.255.255/32", 65535)}},
		// In order, however they are told.
		{"11.0.0.0/8 1\n10.0.0.0/9 2\n10.0.0.0/8 3\n0.0.0.0/0 4\n9.255.255.255/32 5", []api.Route{{Hop: 4}, route4("9.255.255.255/32", 5), route4("10.0.0.0/8", 3), route4("10.0.0.0/9", 2), route4("11.0.0.0/8", 1)}},
	} {
		reads(t, 32, x.text, x.want)
	}
	reads(t, 128, "2001:db8::/32 7\n::/0 8\n2001:DB8:0:0:0:0:0:0/48 9 # six\n::ffff:10.0.0.1/128 10", []api.Route{{Hop: 8}, route6("::ffff:a00:1/128", 10), route6("2001:db8::/32", 7), route6("2001:db8::/48", 9)})
	reads(t, 128, "", nil)
}

// TestP501LastEntryCounts: of several with one prefix, wherever they stand.
func TestP501LastEntryCounts(t *testing.T) {
	for _, family := range families {
		a, b := "0.0.0.0/0", "10.0.0.0/8"
		if family == 128 {
			a, b = "::/0", "a00::/8"
		}
		at, bt := readPrefix(family, a), readPrefix(family, b)
		reads(t, family, a+" 1\n"+a+" 2", []api.Route{{At: at, Hop: 2}})
		reads(t, family, a+" 2\n"+a+" 1", []api.Route{{At: at, Hop: 1}})
		reads(t, family, a+" 2\n"+a+" 2", []api.Route{{At: at, Hop: 2}})
		reads(t, family, a+" 3\n"+b+" 9\n"+a+" 1\n"+b+" 4\n"+a+" 2\n", []api.Route{{At: at, Hop: 2}, {At: bt, Hop: 4}})
		// Many of them, so that a sort that mixes those of one prefix would be seen.
		var text strings.Builder
		for n := 1; n <= 500; n++ {
			text.WriteString(b + " " + strconv.Itoa(65535-n) + "\n" + a + " " + strconv.Itoa(n) + "\n")
		}
		reads(t, family, text.String(), []api.Route{{At: at, Hop: 500}, {At: bt, Hop: 65035}})
	}
	// One prefix, told in several ways.
	reads(t, 128, "1::/16 1\n0001::/16 2\n1:0::0:0/16 3", []api.Route{route6("1::/16", 3)})
}

func TestP501EveryNextHop(t *testing.T) {
	for n := range 1 << 17 {
		text := "10.0.0.0/8 " + strconv.Itoa(n)
		if n < 1 || n > 65535 {
			faults(t, 32, text, api.ErrHop, 1, 12)
			continue
		}
		reads(t, 32, text, []api.Route{route4("10.0.0.0/8", n)})
		faults(t, 32, "10.0.0.0/8 0"+strconv.Itoa(n), api.ErrHop, 1, 12)
	}
}

func TestP501NoNextHops(t *testing.T) {
	long := strings.Repeat("9", 1000)
	for _, s := range []string{
		"0", "00", "01", "065535", "00001", "65536", "65540", "65600", "66000", "70000", "99999", "100000", "655350", "-1", "+1", "-0", "1.", ".1", "1.0", "1e3", "0x1", "1_0", "1,0", "x", "1x", "x1", "/", ":", "1/", "1:", "'1'",
		"4294967297", "18446744073709551617", "36893488147419103233", "340282366920938463463374607431768211457", "9223372036854775808", "1" + strings.Repeat("0", 64), long, "1" + long, "1" + long + "x", "x" + long,
		"\x00", "1\x00", "1\r", "\r", "\v", "1\v", "\f1", "\u00a01", "1\u00a0", "\u0661", "\uff11", "1\xff", "\x80", "\x85", "1\u2028",
	} {
		faults(t, 32, "10.0.0.0/8 "+s, api.ErrHop, 1, 12)
		faults(t, 32, "10.0.0.0/8 "+s+"\n", api.ErrHop, 1, 12)
		// It is ahead of a third word, and of the next line's fault.
		faults(t, 32, "10.0.0.0/8\t\t"+s+" x # y\nx", api.ErrHop, 1, 13)
		faults(t, 128, "::/0 1\n ::/0 "+s+"#", api.ErrHop, 2, 7)
	}
}

func TestP501FaultsByHand(t *testing.T) {
	for _, x := range []struct {
		text      string
		e         api.Errno
		line, col int
	}{
		{"10.0.0.0/8", api.ErrSyntax, 1, 11}, {"10.0.0.0/8 0", api.ErrHop, 1, 12}, {"10.0.0.0/8 1 x", api.ErrSyntax, 1, 14}, {" 10.0.0.1/8 1", api.ErrHost, 1, 2}, {"10.0.0.0/8#1", api.ErrSyntax, 1, 11},
		// No second word: behind what counts, blanks and tabs too.
		{"10.0.0.0/8 ", api.ErrSyntax, 1, 12}, {"10.0.0.0/8\t \t", api.ErrSyntax, 1, 14}, {"10.0.0.0/8 #", api.ErrSyntax, 1, 12}, {" 10.0.0.0/8  # 1", api.ErrSyntax, 1, 14}, {"10.0.0.0/8\n1", api.ErrSyntax, 1, 11}, {"10.0.0.0/8 \t\n", api.ErrSyntax, 1, 13},
		{"0.0.0.0/0 1\n10.0.0.0/8", api.ErrSyntax, 2, 11}, {"\n\n0.0.0.0/0 1\n\t10.0.0.0/8 \t#x\n", api.ErrSyntax, 4, 14},
		// A third word.
		{"10.0.0.0/8 1 1", api.ErrSyntax, 1, 14}, {"10.0.0.0/8 1\t\t 10.0.0.0/8 1", api.ErrSyntax, 1, 16}, {"10.0.0.0/8 1 /#", api.ErrSyntax, 1, 14}, {"10.0.0.0/8 1 \r\n", api.ErrSyntax, 1, 14}, {"10.0.0.0/8 65535 \x00", api.ErrSyntax, 1, 18},
		// The first word's own errors, in prefix.Parse's order, ahead of all others of the line.
		{"x", api.ErrSyntax, 1, 1}, {"10.0.0.0", api.ErrSyntax, 1, 1}, {"10.0.0.0/ 8 1", api.ErrSyntax, 1, 1}, {"  10.0.0.0 /8 1", api.ErrSyntax, 1, 3}, {"1 10.0.0.0/8", api.ErrSyntax, 1, 1}, {"\t\t::/0 1", api.ErrSyntax, 1, 3}, {"10.0.0.0/08 0 x", api.ErrSyntax, 1, 1},
		{"10.0.0.0/33", api.ErrLen, 1, 1}, {"10.0.0.0/33 0 x", api.ErrLen, 1, 1}, {"10.0.0.1/33 1", api.ErrLen, 1, 1}, {" 10.0.0.1/8", api.ErrHost, 1, 2}, {"\n\t10.0.0.1/31 65536 x", api.ErrHost, 2, 2},
		{"\r\n10.0.0.0/8 1", api.ErrSyntax, 1, 1}, {"10.0.0.0/8 1\r\n", api.ErrHop, 1, 12}, {"10.0.0.0/8\r\n", api.ErrSyntax, 1, 1}, {"\v10.0.0.0/8 1", api.ErrSyntax, 1, 1}, {"\ufeff10.0.0.0/8 1", api.ErrSyntax, 1, 1}, {"10.0.0.0/8\f1", api.ErrSyntax, 1, 1}, {"10.0.0.0/8\u00a01", api.ErrSyntax, 1, 1}, {"10.0.0.0/8\r1", api.ErrSyntax, 1, 1}, {"\x00", api.ErrSyntax, 1, 1},
		// Of several the first line's, whichever is told ahead within a line.
		{"10.0.0.0/8 1 x\n10.0.0.0/8\nx", api.ErrSyntax, 1, 14}, {"10.0.0.0/8 0\nx", api.ErrHop, 1, 12}, {"10.0.0.0/8 1\n10.0.0.1/8 1\n10.0.0.0/33 1", api.ErrHost, 2, 1}, {"# x\n\n10.0.0.0/33 1\n10.0.0.1/8 1", api.ErrLen, 3, 1},
		// A fault in an entry whose prefix comes again counts too.
		{"10.0.0.0/8 0\n10.0.0.0/8 1", api.ErrHop, 1, 12}, {"10.0.0.0/8 1\n10.0.0.0/8 0", api.ErrHop, 2, 12}, {"10.0.0.0/8 1\n10.0.0.0/8\n10.0.0.0/8 2", api.ErrSyntax, 2, 11},
	} {
		faults(t, 32, x.text, x.e, x.line, x.col)
	}
	faults(t, 128, "::/0 1\n2001:db8::/129 x", api.ErrLen, 2, 1)
	faults(t, 128, "::1/127 1", api.ErrHost, 1, 1)
	faults(t, 128, "10.0.0.0/8 1", api.ErrSyntax, 1, 1)
	// Col counts bytes, not signs.
	faults(t, 128, "::/0 \u00e4 1", api.ErrHop, 1, 6)
	faults(t, 128, "::/0 1#\u00e4\u00e4\n::/0 1 \u00e4", api.ErrSyntax, 2, 8)
}

func TestP501NoFamily(t *testing.T) {
	for _, family := range noFamilies {
		for _, text := range []string{"", "\n", "x", "10.0.0.0/8 1", "::/0 1", "10.0.0.0/8 0", "\n\n10.0.0.0/8"} {
			faults(t, family, text, api.ErrFamily, 0, 0)
		}
	}
}

// byWord reads as the document says it, a line and a word at a time, and without a bound on the entries.
func byWord(family int, text string) (hops, api.Fault) {
	m := hops{}
	for i, line := range strings.Split(text, "\n") {
		counts, _, _ := strings.Cut(line, "#")
		words := strings.FieldsFunc(counts, func(r rune) bool { return r == 32 || r == 9 })
		if len(words) == 0 {
			continue
		}
		at := func(n int) int {
			from := 0
			for _, w := range words[:n] {
				from += strings.Index(counts[from:], w) + len(w)
			}
			return from + strings.Index(counts[from:], words[n]) + 1
		}
		p, e := prefix.Parse(family, words[0])
		if e != api.OK {
			return nil, api.Fault{Err: e, Line: i + 1, Col: at(0)}
		}
		if len(words) == 1 {
			return nil, api.Fault{Err: api.ErrSyntax, Line: i + 1, Col: len(counts) + 1}
		}
		n, err := strconv.ParseUint(words[1], 10, 16)
		if err != nil || n == 0 || strconv.FormatUint(n, 10) != words[1] {
			return nil, api.Fault{Err: api.ErrHop, Line: i + 1, Col: at(1)}
		}
		if len(words) > 2 {
			return nil, api.Fault{Err: api.ErrSyntax, Line: i + 1, Col: at(2)}
		}
		m[spell(p.Addr, p.Len)] = int(n)
	}
	return m, api.Fault{}
}

// pieces are what texts are put together of: of some that are right most often, so that long texts are right as a whole now and then.
func pieces(family int) (prefixes, numbers, gaps, ends, odd []string) {
	prefixes = []string{"10.0.0.0/8", "10.1.0.0/16", "0.0.0.0/0", "255.255.255.255/32", "128.0.0.0/1", "10.0.0.0/9"}
	if family == 128 {
		prefixes = []string{"::/0", "2001:db8::/32", "1::/16", "0001:0::/16", "::1/128", "8000::/1"}
	}
	numbers = []string{"1", "2", "65535", "9", "10", "300"}
	gaps = []string{" ", " ", "\t", "  ", " \t", "\t\t "}
	ends = []string{"\n", "\n", "\n\n", " \n", "\t\n", "#\n", " # x\n", "# 1 2 3\n", "\n#\n", "\n \t\n"}
	odd = []string{"0", "01", "65536", "x", "#", "\r", "\x00", "\u00a0", "\v", "/", "10.0.0.1/8", "10.0.0.0/33", "::1/12", "::/129", "10.0.0.0", "\n", " ", "1", "99999999999999999999", "-1"}
	return prefixes, numbers, gaps, ends, odd
}

// someTexts are texts put together without a pattern.
func someTexts(family, count int) []string {
	next := counter()
	pick := func(l []string) string { return l[next()%uint64(len(l))] }
	prefixes, numbers, gaps, ends, odd := pieces(family)
	var l []string
	for i := range count {
		var b strings.Builder
		for range next() % 12 {
			if next()%3 == 0 {
				b.WriteString(pick(gaps))
			}
			for _, part := range [][]string{prefixes, gaps, numbers, ends} {
				how := next() % 48
				// One text of two has something odd in it now and then, ahead of a part or in its place, or lacks a part.
				if i%2 == 0 && how < 2 {
					b.WriteString(pick(odd))
				}
				if i%2 == 1 || how == 0 || how > 2 {
					b.WriteString(pick(part))
				}
			}
		}
		if next()%2 == 0 {
			b.WriteString(pick(prefixes) + pick(gaps) + pick(numbers))
		}
		l = append(l, b.String())
	}
	return l
}

func TestP501WithoutAPattern(t *testing.T) {
	for _, family := range families {
		seen := map[api.Errno]int{}
		for _, text := range someTexts(family, 20000) {
			m, f := byWord(family, text)
			seen[f.Err]++
			if f.Err != api.OK {
				faults(t, family, text, f.Err, f.Line, f.Col)
				continue
			}
			reads(t, family, text, m.table(family).Routes)
		}
		for _, e := range []api.Errno{api.OK, api.ErrSyntax, api.ErrLen, api.ErrHost, api.ErrHop} {
			if seen[e] < 20 {
				t.Errorf("only %d texts of 20000 have %v", seen[e], e)
			}
		}
	}
}

// TestP501ShortTexts: all of few bytes.
func TestP501ShortTexts(t *testing.T) {
	signs := []string{"::/0", "1", "0", " ", "\t", "\n", "#", "x"}
	texts := []string{""}
	for size := 0; size < 6; size++ {
		var longer []string
		for _, s := range texts {
			for _, sign := range signs {
				longer = append(longer, s+sign)
			}
		}
		for _, text := range longer {
			if m, f := byWord(128, text); f.Err != api.OK {
				faults(t, 128, text, f.Err, f.Line, f.Col)
			} else {
				reads(t, 128, text, m.table(128).Routes)
			}
		}
		texts = longer
	}
}

// TestP501EveryByte: but blanks, tabs, byte 10 and the remark's sign each is a part of a word.
func TestP501EveryByte(t *testing.T) {
	for c := range 256 {
		s := string([]byte{byte(c)})
		for _, text := range []string{s, s + "::/0 1", "::/0" + s + "1", "::/0 " + s, "::/0 1" + s, "::/0 1" + s + "2", "::/0 1 " + s, "::/0 1 " + s + " 2", "#" + s + "::/0 1", "::/0 1#" + s + "::/0 2"} {
			if m, f := byWord(128, text); f.Err != api.OK {
				faults(t, 128, text, f.Err, f.Line, f.Col)
			} else {
				reads(t, 128, text, m.table(128).Routes)
			}
		}
	}
}

// manyLines tells n entries, no prefix twice, in the order of their prefixes, a line each; those of one next hop are beside one another.
func manyLines(n int) (string, []api.Route) {
	var b strings.Builder
	l := make([]api.Route, n)
	for i := range n {
		hop := i>>8 + 1
		l[i] = api.Route{At: api.Prefix{Addr: api.Word{Hi: 10<<56 | uint64(i)<<32}, Len: 32}, Hop: hop}
		b.WriteString("10." + strconv.Itoa(i>>16) + "." + strconv.Itoa(i>>8&255) + "." + strconv.Itoa(i&255) + "/32 " + strconv.Itoa(hop) + "\n")
	}
	return b.String(), l
}

func TestP501Limit(t *testing.T) {
	text, l := manyLines(api.MaxEntries)
	if api.MaxEntries != 1<<20 {
		t.Fatal("the limit is another one")
	}
	full, f := Parse(32, "\n# as many as may be\n"+text+" \t\n#")
	if f != (api.Fault{}) || full.W != 32 || !slices.Equal(full.Routes, l) {
		t.Fatalf("of %d entries: %d, %v", api.MaxEntries, len(full.Routes), f)
	}
	const behind = api.MaxEntries + 1
	faults(t, 32, text+"11.0.0.0/8 1", api.ErrLimit, behind, 1)
	// At its line, whatever stands ahead in it, and whatever is behind that is right.
	faults(t, 32, text+"\n#\n \t\n\t 11.0.0.0/8 1 # x\n11.0.0.0/9 2\n\n11.0.0.0/10 3", api.ErrLimit, behind+3, 1)
	faults(t, 32, "\n\n"+text+"11.0.0.0/8 1\n", api.ErrLimit, behind+2, 1)
	// A prefix told ahead is an entry too.
	faults(t, 32, text+"10.0.0.0/32 1", api.ErrLimit, behind, 1)
	// A fault in a line behind is told ahead of it.
	faults(t, 32, text+"11.0.0.0/8 1\n12.0.0.0/8 2\nx", api.ErrSyntax, behind+2, 1)
	faults(t, 32, text+"11.0.0.0/8 0", api.ErrHop, behind, 12)
	faults(t, 32, text+"11.0.0.0/8", api.ErrSyntax, behind, 11)
	faults(t, 32, text+"11.0.0.0/8 1\n11.0.0.1/8 1\nx", api.ErrHost, behind+1, 1)
	faults(t, 32, text+"11.0.0.0/8 1\n11.0.0.0/8 1 1", api.ErrSyntax, behind+1, 14)
	faults(t, 32, text+"\n11.0.0.0/8 1\n11.0.0.0/33", api.ErrLen, behind+2, 1)
	// And the family's ahead of all.
	faults(t, 33, text+"11.0.0.0/8 1", api.ErrFamily, 0, 0)
}

// TestP501LimitOfOnePrefix: it is entries that are counted, not routes.
func TestP501LimitOfOnePrefix(t *testing.T) {
	one := strings.Repeat("::/0 1\n", api.MaxEntries-1)
	reads(t, 128, one+"::/0 2", []api.Route{{Hop: 2}})
	reads(t, 128, one+"::/0 2\n\n", []api.Route{{Hop: 2}})
	faults(t, 128, one+"::/0 2\n::/0 3", api.ErrLimit, api.MaxEntries+1, 1)
	faults(t, 128, one+"::/0 2\n::/0 3\n::/0 4\n", api.ErrLimit, api.MaxEntries+1, 1)
	faults(t, 128, one+"::/0 2\n::/0 3\n::/0 4\n::/0", api.ErrSyntax, api.MaxEntries+3, 5)
	// Lines without words are no entries, however many there are.
	reads(t, 128, one+strings.Repeat("\n#\n \t\n", api.MaxEntries)+"::/0 2", []api.Route{{Hop: 2}})
}

// TestP501Long: a word, a remark, a gap may be of any length.
func TestP501Long(t *testing.T) {
	const n = 1 << 20
	blanks, digits, zeros := strings.Repeat(" \t", n/2), strings.Repeat("1", n), strings.Repeat("0", n)
	reads(t, 128, blanks+"::/0"+blanks+"1"+blanks+"#"+digits, []api.Route{{Hop: 1}})
	faults(t, 128, blanks+"::/0"+blanks, api.ErrSyntax, 1, 2*n+5)
	faults(t, 128, blanks+"::/0"+blanks+digits, api.ErrHop, 1, 2*n+5)
	faults(t, 128, "::/0 "+zeros+"1", api.ErrHop, 1, 6)
	faults(t, 128, "::/0 1 "+digits, api.ErrSyntax, 1, 8)
	faults(t, 128, digits, api.ErrSyntax, 1, 1)
	faults(t, 128, "::/"+zeros, api.ErrSyntax, 1, 1)
	faults(t, 128, strings.Repeat("\n", n)+" x", api.ErrSyntax, n+1, 2)
}
