package asm

import (
	"bytes"
	"fmt"
	"strings"
	"testing"

	"turnpike/api"
)

// isRead asks that Parse reads a text as it must, again too, and that what it tells is the caller's own.
func isRead(t *testing.T, text string, want []byte, fault api.Fault) {
	t.Helper()
	for range 2 {
		b, f := Parse(text)
		if f != fault || !bytes.Equal(b, want) {
			t.Fatalf("P1502: %s: %x, %v, want %x, %v", short(text), b[:min(len(b), 60)], f, want[:min(len(want), 60)], fault)
		}
		overwrite(b, 0xDD)
	}
}

// isCode asks that a text is read as these bytes, with a byte 10 at its end and without.
func isCode(t *testing.T, text, code string) {
	t.Helper()
	isRead(t, text, unhex(code), api.Fault{})
	isRead(t, text+"\n", unhex(code), api.Fault{})
}

// isRefused asks that a line is refused by its error: alone, with a byte 10 at its end, behind other lines, and ahead of others that are wrong.
func isRefused(t *testing.T, line string, e api.Errno) {
	t.Helper()
	if line != "" {
		isRead(t, line, nil, api.Fault{Err: e, Line: 1, Col: 1})
		isRead(t, "return 1\nword 00000000\n"+line, nil, api.Fault{Err: e, Line: 3, Col: 1})
	}
	isRead(t, line+"\n", nil, api.Fault{Err: e, Line: 1, Col: 1})
	isRead(t, line+"\nreturn 1\n", nil, api.Fault{Err: e, Line: 1, Col: 1})
	isRead(t, "return 1\nword 00000000\n"+line+"\n", nil, api.Fault{Err: e, Line: 3, Col: 1})
	for _, other := range []string{"", "none", "extract 0", "index 1"} {
		isRead(t, "return 1\n"+line+"\n"+other+"\n", nil, api.Fault{Err: e, Line: 2, Col: 1})
	}
}

func TestP1502Examples(t *testing.T) {
	isCode(t, "extract 1\nindex 1 c0000000\nreturn 5\njump 2", "01000001 02000001c0000000 04000005 03000002")
	isCode(t, "word ffffffff", "ffffffff")
	for _, x := range []struct {
		line string
		e    api.Errno
	}{
		{"extract 0", api.ErrArg}, {"extract 25", api.ErrArg}, {"extract 01", api.ErrWord}, {"Extract 1", api.ErrWord}, {"", api.ErrWord},
		{"index 1 20000000", api.ErrMap}, {"index 1", api.ErrMap}, {"word ff", api.ErrWord},
	} {
		isRefused(t, x.line, x.e)
	}
}

// TestP1502Lines: what is a line, and which one is the first that is wrong.
func TestP1502Lines(t *testing.T) {
	word := func(line int) api.Fault { return api.Fault{Err: api.ErrWord, Line: line, Col: 1} }
	isRead(t, "", nil, api.Fault{})
	isRead(t, "\n", nil, word(1))
	isRead(t, "\n\n", nil, word(1))
	isRead(t, "return 9", unhex("04000009"), api.Fault{})
	isRead(t, "return 9\n", unhex("04000009"), api.Fault{})
	isRead(t, "return 9\n\n", nil, word(2))
	isRead(t, "return 9\n\n\n", nil, word(2))
	isRead(t, "\nreturn 9", nil, word(1))
	isRead(t, "\nreturn 9\n", nil, word(1))
	isRead(t, "return 9\nreturn 8", unhex("04000009 04000008"), api.Fault{})
	isRead(t, "return 9\nreturn 8\n", unhex("04000009 04000008"), api.Fault{})
	isRead(t, "return 9\n\nreturn 8\n", nil, word(2))
	isRead(t, "return 9\nreturn 8\n ", nil, word(3))
	isRead(t, "return 9\nreturn 8\n\r\n", nil, word(3))
	isRead(t, "return 9\rreturn 8", nil, word(1))
	isRead(t, "return 9 return 8", nil, word(1))
	isRead(t, "return\n9\n", nil, word(1))
	isRead(t, "index 1\nc0000000\n", nil, api.Fault{Err: api.ErrMap, Line: 1, Col: 1})
	isRead(t, "index 6 80000000\n00000000\n", nil, api.Fault{Err: api.ErrMap, Line: 1, Col: 1})
	isRead(t, "word\n00000000\n", nil, word(1))
	isRead(t, "word 0000\n0000\n", nil, word(1))
	isRead(t, strings.Repeat("return 9\n", 70000)+"return\nreturn 9", nil, word(70001))
}

// TestP1502Blanks: one blank between two words, none at a line's ends, and nothing else.
func TestP1502Blanks(t *testing.T) {
	for _, line := range []string{"extract 1", "index 1 c0000000", "index 6 80000000 00000000", "jump 2", "return 5", "word ffffffff", "extract 0", "index 1 20000000", "index 1"} {
		for _, blank := range []string{" ", "  ", "\t", "\r", "\v", "\f", "\x00", "\u00a0", "\u2003", ",", "#", "\ufeff"} {
			isRefused(t, blank+line, api.ErrWord)
			isRefused(t, line+blank, api.ErrWord)
			for at := range len(line) {
				if line[at] != ' ' {
					continue
				}
				if blank != " " {
					isRefused(t, line[:at]+blank+line[at+1:], api.ErrWord)
				}
				isRefused(t, line[:at]+" "+blank+line[at+1:], api.ErrWord)
				isRefused(t, line[:at]+blank+" "+line[at+1:], api.ErrWord)
			}
		}
		isRefused(t, strings.ReplaceAll(line, " ", ""), api.ErrWord)
	}
	isRefused(t, " ", api.ErrWord)
	isRefused(t, "  ", api.ErrWord)
	isRefused(t, "\t", api.ErrWord)
	isRefused(t, "\r", api.ErrWord)
}

// TestP1502Names: just the words of the table, small, and whole.
func TestP1502Names(t *testing.T) {
	for _, x := range []struct{ name, rest string }{{"extract", " 1"}, {"index", " 1 c0000000"}, {"jump", " 1"}, {"return", " 1"}, {"word", " 00000001"}} {
		isRefused(t, x.name, api.ErrWord)
		isRefused(t, x.name+" ", api.ErrWord)
		isRefused(t, strings.ToUpper(x.name)+x.rest, api.ErrWord)
		isRefused(t, strings.ToUpper(x.name[:1])+x.name[1:]+x.rest, api.ErrWord)
		isRefused(t, x.name+"s"+x.rest, api.ErrWord)
		isRefused(t, x.name+x.name+x.rest, api.ErrWord)
		isRefused(t, x.name+" "+x.name+x.rest, api.ErrWord)
		isRefused(t, x.name+"1"+x.rest, api.ErrWord)
		isRefused(t, x.name+":"+x.rest, api.ErrWord)
		for at := range len(x.name) {
			isRefused(t, x.name[:at]+x.rest, api.ErrWord)
			isRefused(t, x.name[at+1:]+x.rest, api.ErrWord)
			isRefused(t, x.name[:at]+"x"+x.name[at:]+x.rest, api.ErrWord)
			isRefused(t, x.name[:at]+strings.ToUpper(x.name[at:at+1])+x.name[at+1:]+x.rest, api.ErrWord)
		}
	}
	for _, line := range []string{"1", "0", "00000000", "c0000000", "call 1", "1 extract", "-", "ｒeturn 1", "return １", "return ١"} {
		isRefused(t, line, api.ErrWord)
	}
}

// TestP1502Numbers: decimal digits, at most nine, without noughts ahead; what is such a number, and out of its bounds, is ErrArg.
func TestP1502Numbers(t *testing.T) {
	for _, s := range shapes {
		behind := ""
		if s.name == "index" {
			behind = " 80000000"
		}
		for _, n := range []string{"00", "01", "001", "024", "000000000", "000000001", "0000000000", "1000000000", "9999999999", "1000000001", "0999999999", "18446744073709551617", "4294967297", strings.Repeat("9", 300), "-1", "-0", "+1", "+0", "--1", "1-", "1.", "1.0", ".1", "1e1", "0x1", "0b1", "1_0", "1a", "a", "a1", "f", "1,0", "'1'", "", "１", "1/", "1:", "/", ":"} {
			isRefused(t, s.name+" "+n+behind, api.ErrWord)
		}
		for _, n := range []int{s.most + 1, s.most + 2, 16777216, 99999999, 100000000, 123456789, 999999998, 999999999} {
			isRefused(t, fmt.Sprint(s.name, " ", n, behind), api.ErrArg)
		}
		if s.least == 1 {
			isRefused(t, s.name+" 0"+behind, api.ErrArg)
		}
	}
	for _, x := range []struct{ line, code string }{
		{"extract 1", "01000001"}, {"extract 9", "01000009"}, {"extract 10", "0100000a"}, {"extract 24", "01000018"}, {"jump 1", "03000001"}, {"jump 16777215", "03ffffff"}, {"jump 10203040", "039bafa0"},
		{"return 0", "04000000"}, {"return 1", "04000001"}, {"return 258", "04000102"}, {"return 65535", "0400ffff"},
	} {
		isCode(t, x.line, x.code)
	}
}

// TestP1502Bounds: all numbers around the bounds of each instruction.
func TestP1502Bounds(t *testing.T) {
	for _, s := range shapes {
		for _, edge := range []int{s.least, 24, 255, 65535, s.most} {
			for n := max(0, edge-30); n <= edge+30; n++ {
				line := fmt.Sprint(s.name, " ", n)
				if s.name == "index" {
					line += mapWords(min(n, 10))
				}
				want, f := parseBy(line)
				isRead(t, line, want, f)
				if s.name != "index" && (f.Err == api.OK) != (s.least <= n && n <= s.most) {
					t.Fatalf("%s: %v", line, f)
				}
			}
		}
	}
}

// TestP1502Digits: words are eight digits of sixteen, small, wherever they stand.
func TestP1502Digits(t *testing.T) {
	isCode(t, "word 00000000", "00000000")
	isCode(t, "word 01234567", "01234567")
	isCode(t, "word 89abcdef", "89abcdef")
	isCode(t, "word 04000009", "04000009")
	isCode(t, "word 02000001\nword c0000000", "02000001c0000000")
	for _, w := range []string{"", "0", "c000000", "0000000", "c00000000", "000000000", "0x000000", "C0000000", "c000000F", "ABCDEF00", "g0000000", "c000000g", "c000 000", "-0000000", "+c000000", "c0000.00", "c_000000", "c000000/", "c000000:", "c000000`", "c000000@", "c000000é", "`0000000", "c0000000c0000000", "c000000\x00", "c000000\xff"} {
		for _, head := range []string{"word ", "index 1 ", "index 6 ", "index 6 80000000 ", "index 0 ", "index 25 ", "index 1 20000000 ", "extract 1 ", "jump 0 "} {
			isRefused(t, head+w, api.ErrWord)
			isRefused(t, head+w+" 00000000", api.ErrWord)
		}
	}
	for _, line := range []string{"word 00000000 00000000", "word 00000000 1", "word 1 00000000", "word 1", "word 123456789", "extract 1 00000000", "jump 1 c0000000", "return 1 80000000", "return 1 1", "extract 1 1", "index c0000000", "index 1 1", "index 1 2 80000000", "index 6 80000000 0"} {
		isRefused(t, line, api.ErrWord)
	}
	// Eight decimal digits may be a number, too.
	isRefused(t, "index 10000000", api.ErrArg)
	isRefused(t, "index 80000000", api.ErrArg)
	isRefused(t, "index 10000000 80000000", api.ErrArg)
}

// TestP1502EveryByte: any byte in a word's place, a number's, a name's, a line's.
func TestP1502EveryByte(t *testing.T) {
	for c := range 256 {
		one := string([]byte{byte(c)})
		for _, text := range []string{one, one + "return 1", "return 1" + one, "return" + one + "1", "return " + one, "return " + one + "1", "return 1" + one + "1", "retur" + one + " 1", "word 0000000" + one, "word " + one + "0000000", "word 000" + one + "0000", "word 00000000" + one, "word" + one + "00000000", "index 1" + one + "c0000000", "index 1 c" + one + "000000", "index 1 " + one + "0000000", "index " + one + " 80000000", "index 6 80000000" + one + "00000000"} {
			want, f := parseBy(text)
			isRead(t, text, want, f)
			want, f = parseBy("jump 1\n" + text + "\n")
			isRead(t, "jump 1\n"+text+"\n", want, f)
		}
	}
}

// TestP1502Maps: a word too few, too many, none, place 0 not set, places from 2^N on.
func TestP1502Maps(t *testing.T) {
	for n := 1; n <= 14; n++ {
		head, words := fmt.Sprint("index ", n), mapWords(n)
		want, e := lineBy(head + words)
		if e != api.OK {
			t.Fatal(n, e)
		}
		isCode(t, head+words, want)
		isRefused(t, head, api.ErrMap)
		isRefused(t, head+words[9:], api.ErrMap)
		isRefused(t, head+words[:len(words)-9], api.ErrMap)
		isRefused(t, head+words+" 00000000", api.ErrMap)
		isRefused(t, head+words+" 80000000", api.ErrMap)
		isRefused(t, head+" 80000000"+words, api.ErrMap)
		isRefused(t, head+words+words, api.ErrMap)
		isRefused(t, head+" 40000000"+words[9:], api.ErrMap)
		isRefused(t, head+" 7fffffff"+words[9:], api.ErrMap)
		isRefused(t, head+strings.Repeat(" 00000000", len(words)/9), api.ErrMap)
	}
	for n := 1; n <= 4; n++ {
		for place := range 32 {
			line := fmt.Sprintf("index %d %08x", n, uint32(1<<31|1<<(31-place)))
			want, e := lineBy(line)
			if (e == api.OK) != (place < 1<<n) {
				t.Fatal(line, e)
			}
			if e == api.OK {
				isCode(t, line, want)
			} else {
				isRefused(t, line, api.ErrMap)
			}
		}
	}
	isCode(t, "index 6 80000000 ffffffff", "02000006 80000000 ffffffff")
	isRefused(t, "index 24 80000000", api.ErrMap)
	isRefused(t, "index 24", api.ErrMap)
}

// TestP1502Greatest: a map of MaxBits.
func TestP1502Greatest(t *testing.T) {
	words := mapWords(api.MaxBits)
	want, e := lineBy("index 24" + words)
	if e != api.OK {
		t.Fatal(e)
	}
	isCode(t, "return 1\nindex 24"+words+"\nreturn 2", "04000001"+want+"04000002")
	isRefused(t, "index 24"+words+" 00000000", api.ErrMap)
	isRefused(t, "index 24"+words[:len(words)-9], api.ErrMap)
	isRefused(t, "index 23"+words, api.ErrMap)
	isRefused(t, "index 25"+words, api.ErrArg)
	isRefused(t, "index 24"+words+" ", api.ErrWord)
	isRefused(t, "index 25"+words[:len(words)-1]+"g", api.ErrWord)
}

// TestP1502Order: in a line ErrWord comes ahead of ErrArg, ErrArg ahead of ErrMap, wherever in it they are; among lines the first one's.
func TestP1502Order(t *testing.T) {
	for _, x := range []struct {
		line string
		e    api.Errno
	}{
		{"index 25 20000000", api.ErrArg}, {"index 25", api.ErrArg}, {"index 0", api.ErrArg}, {"index 0 80000000", api.ErrArg}, {"index 999999999 00000000 00000000", api.ErrArg},
		{"index 25 2000000", api.ErrWord}, {"index 0 ", api.ErrWord}, {"index 25 20000000 x", api.ErrWord}, {"index 1 20000000 ", api.ErrWord}, {"index 1 20000000 C0000000", api.ErrWord}, {"index 1 00000000 00000000 1", api.ErrWord},
		{"extract 0 ", api.ErrWord}, {"extract 25 00000000", api.ErrWord}, {"jump 0 1", api.ErrWord}, {"return 65536\r", api.ErrWord}, {"jump 16777216x", api.ErrWord},
	} {
		isRefused(t, x.line, x.e)
	}
	wrong := []struct {
		line string
		e    api.Errno
	}{{"none", api.ErrWord}, {"", api.ErrWord}, {"extract 0", api.ErrArg}, {"index 25 x", api.ErrWord}, {"index 25", api.ErrArg}, {"index 1", api.ErrMap}, {"index 6 80000000", api.ErrMap}}
	for _, a := range wrong {
		for _, b := range wrong {
			isRead(t, "return 1\n"+a.line+"\nreturn 1\n"+b.line+"\n", nil, api.Fault{Err: a.e, Line: 2, Col: 1})
			isRead(t, a.line+"\n"+b.line+"\nreturn 1", nil, api.Fault{Err: a.e, Line: 1, Col: 1})
		}
	}
}

// altered is a text of which one piece is another: a byte taken away, put in, put in the place of another, twice there, a digit made another one, or two pieces changed about.
func altered(next func() uint64, s string) string {
	const some = " \n01289acdfgACF\t\r-+xetrnwojmpi\x00\xff"
	at := upTo(next, len(s))
	c := some[upTo(next, len(some)):][:1]
	switch upTo(next, 8) {
	case 0:
		return s[:at] + s[at+1:]
	case 1:
		return s[:at] + c + s[at:]
	case 2:
		return s[:at] + c + s[at+1:]
	case 3:
		return s[:at] + s[at:at+1] + s[at:]
	case 4, 5, 6:
		if '0' <= s[at] && s[at] <= '9' {
			return s[:at] + "0123456789abcdef"[upTo(next, 16):][:1] + s[at+1:]
		}
	}
	to := at + upTo(next, len(s)-at)
	return s[:at] + s[to:] + s[at:to]
}

// TestP1502ManyTexts: lines that are right, of all kinds, in texts of which up to two pieces are others.
func TestP1502ManyTexts(t *testing.T) {
	next := counter()
	var lines []string
	for _, line := range rightLines() {
		if len(line) < 60 {
			lines = append(lines, line)
		}
	}
	count := map[api.Errno]int{}
	for range 150000 {
		text := ""
		for range 1 + upTo(next, 4) {
			text += lines[upTo(next, len(lines))] + "\n"
		}
		for range upTo(next, 3) {
			text = altered(next, text)
		}
		want, f := parseBy(text)
		isRead(t, text, want, f)
		count[f.Err]++
	}
	for _, e := range []api.Errno{api.OK, api.ErrWord, api.ErrArg, api.ErrMap} {
		if count[e] < 1000 {
			t.Errorf("only %d are %v", count[e], e)
		}
	}
}

// TestP2OwnMemory: what two calls tell shares nothing.
func TestP2OwnMemory(t *testing.T) {
	for _, line := range append(rightLines(), strings.Repeat("return 5\n", 100)) {
		want, _ := parseBy(line)
		a, _ := Parse(line)
		b, _ := Parse(line)
		overwrite(a, 0xDD)
		if !bytes.Equal(b, want) {
			t.Fatalf("P2: %s: %x", short(line), b)
		}
	}
}
