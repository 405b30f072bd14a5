package fib

import (
	"bytes"
	"errors"
	"fmt"
	"math"
	"slices"
	"strconv"
	"strings"
	"testing"

	"turnpike/api"
	"turnpike/table"
)

// isRefusal asks that an error is a *Refused of just this, also to whoever asks errors.Is and errors.As, and also wrapped in another one.
func isRefusal(t *testing.T, err error, want Refused, text string) {
	t.Helper()
	if err == nil {
		t.Fatalf("no error; want %s", text)
	}
	for _, x := range []error{err, fmt.Errorf("ahead: %w", err), errors.Join(errors.New("other"), err)} {
		var r *Refused
		if !errors.As(x, &r) || *r != want {
			t.Fatalf("P2002: %v: %+v; want %+v", x, r, want)
		}
		var e api.Errno
		if !errors.As(x, &e) || e != want.Err {
			t.Fatalf("P2002: %v: the number %v; want %v", x, e, want.Err)
		}
		for _, e := range append(errnos, api.OK) {
			if errors.Is(x, e) != (e == want.Err) {
				t.Fatalf("P2002: %v: is it %v? %v", x, e, errors.Is(x, e))
			}
		}
	}
	if err.Error() != text || errors.Unwrap(err) != want.Err {
		t.Fatalf("P2002: %q wraps %v; want %q, %v", err.Error(), errors.Unwrap(err), text, want.Err)
	}
}

// isNotCompiled asks for a refusal, and no bytes beside it.
func isNotCompiled(t *testing.T, text string, family, depth, most int, want Refused, word string) {
	t.Helper()
	b, err := Compile(text, family, depth, most)
	if len(b) != 0 {
		t.Fatalf("P2002: Compile(%.200q, %d, %d, %d): %s beside %v", text, family, depth, most, short(b), err)
	}
	isRefusal(t, err, want, word)
}

// isCompiled asks for an image, and nil beside it.
func isCompiled(t *testing.T, text string, family, depth, most int, want []byte) {
	t.Helper()
	if b, err := Compile(text, family, depth, most); err != nil || !bytes.Equal(b, want) {
		t.Fatalf("P2002: Compile(%.200q, %d, %d, %d): %s, %v; want %s", text, family, depth, most, short(b), err, short(want))
	}
}

// whatever are depths and limits, most of them wrong.
var whatever = []struct{ depth, most int }{{1, 100}, {1, math.MaxInt}, {0, 100}, {33, 100}, {129, 100}, {-1, -1}, {1, 0}, {1, -1}, {math.MinInt, math.MinInt}, {math.MaxInt, math.MaxInt}}

func TestP2002Examples(t *testing.T) {
	// 1.
	want := []byte{0x54, 0x50, 0x4b, 0x31, 32, 1, 0, 3, 0, 0, 0, 5, 0x6d, 0xcc, 0xa8, 0x87, 1, 0, 0, 1, 2, 0, 0, 1, 0xc0, 0, 0, 0, 4, 0, 0, 5, 4, 0, 0, 0}
	isCompiled(t, "0.0.0.0/1 5", 32, 1, 100, want)
	isCompiled(t, "0.0.0.0/1 5", 32, 1, 36, want)
	isNotCompiled(t, "0.0.0.0/1 5", 32, 1, 35, Refused{Err: api.ErrSize}, "size")
	isNotCompiled(t, "0.0.0.0/1 5", 32, 0, 100, Refused{Err: api.ErrDepth}, "depth")
	isNotCompiled(t, "0.0.0.0/1 5", 32, 33, 100, Refused{Err: api.ErrDepth}, "depth")
	isNotCompiled(t, "0.0.0.0/1", 32, 1, 100, Refused{Err: api.ErrSyntax, Fault: api.Fault{Err: api.ErrSyntax, Line: 1, Col: 10}}, "syntax 1:10")
	// 2.
	for _, family := range families {
		b := framed(family, 0, 1, codeOf("r0"))
		isCompiled(t, "", family, 1, 20, b)
		isNotCompiled(t, "", family, 1, 19, Refused{Err: api.ErrSize}, "size")
		for _, s := range edgesOf(family, nil) {
			if hop, e := Lookup(b, 0, wordOf(s)); hop != 0 || e != api.OK {
				t.Errorf("P2004: %s in no routes: %d, %v", s, hop, e)
			}
		}
	}
}

// TestP2002Right: of texts without a fault Compile tells what Make tells of their tables.
func TestP2002Right(t *testing.T) {
	next := counter()
	seen := map[api.Errno]int{}
	for _, x := range samples(1500) {
		text := x.h.anyhow(next, x.family)
		if tab, f := table.Parse(x.family, text); f.Err != api.OK || !table.Same(tab, x.h.table(x.family)) {
			t.Fatalf("%q is another table: %v, %v", text, tab, f)
		}
		most := one(next, 20, 36, 100, 400, math.MaxInt, math.MaxInt)
		b, e := Make(x.h.table(x.family), x.depth, most)
		seen[e]++
		if e == api.OK {
			isCompiled(t, text, x.family, x.depth, most, b)
		} else {
			isNotCompiled(t, text, x.family, x.depth, most, Refused{Err: e}, "size")
		}
	}
	if seen[api.OK] < 600 || seen[api.ErrSize] < 300 {
		t.Errorf("the samples: %v", seen)
	}
}

// TestP2002Faults: each kind of fault of a line, whatever the depth and the limit are; Fault is table.Parse's, Err is ErrSyntax.
func TestP2002Faults(t *testing.T) {
	for _, x := range []struct {
		family int
		text   string
		fault  api.Fault
		word   string
	}{
		{32, "0.0.0.0/1", api.Fault{Err: api.ErrSyntax, Line: 1, Col: 10}, "syntax 1:10"}, {32, "10.0.0.0/8 1 x", api.Fault{Err: api.ErrSyntax, Line: 1, Col: 14}, "syntax 1:14"}, {32, "10.0.0.0/8#1", api.Fault{Err: api.ErrSyntax, Line: 1, Col: 11}, "syntax 1:11"}, {32, "x", api.Fault{Err: api.ErrSyntax, Line: 1, Col: 1}, "syntax 1:1"}, {128, "0.0.0.0/1 5", api.Fault{Err: api.ErrSyntax, Line: 1, Col: 1}, "syntax 1:1"}, {32, "::/0 5", api.Fault{Err: api.ErrSyntax, Line: 1, Col: 1}, "syntax 1:1"},
		{32, "10.0.0.0/8 0", api.Fault{Err: api.ErrHop, Line: 1, Col: 12}, "syntax 1:12"}, {32, "\n10.0.0.0/8  65536", api.Fault{Err: api.ErrHop, Line: 2, Col: 13}, "syntax 2:13"}, {128, "::/0 1\n\n::/0 01\n", api.Fault{Err: api.ErrHop, Line: 3, Col: 6}, "syntax 3:6"},
		{32, "10.0.0.0/33 1", api.Fault{Err: api.ErrLen, Line: 1, Col: 1}, "syntax 1:1"}, {128, "# x\n\t\t::/129 0", api.Fault{Err: api.ErrLen, Line: 2, Col: 3}, "syntax 2:3"},
		{32, " 10.0.0.1/8 1", api.Fault{Err: api.ErrHost, Line: 1, Col: 2}, "syntax 1:2"}, {128, "::/0 1\n ::1/127 1", api.Fault{Err: api.ErrHost, Line: 2, Col: 2}, "syntax 2:2"},
		// The first one, where there are several; also in an entry that does not count.
		{32, "10.0.0.0/8 0\nx", api.Fault{Err: api.ErrHop, Line: 1, Col: 12}, "syntax 1:12"}, {32, "10.0.0.1/8 1\n10.0.0.0/33 1\n", api.Fault{Err: api.ErrHost, Line: 1, Col: 1}, "syntax 1:1"}, {32, "10.0.0.0/8 0\n10.0.0.0/8 1", api.Fault{Err: api.ErrHop, Line: 1, Col: 12}, "syntax 1:12"},
		{32, strings.Repeat("\n", 1233) + strings.Repeat(" ", 55) + "10.0.0.0/8", api.Fault{Err: api.ErrSyntax, Line: 1234, Col: 66}, "syntax 1234:66"},
		// Of a table whose image would be too long.
		{32, "1.2.3.4/32 1\n1.2.3.4/32 x", api.Fault{Err: api.ErrHop, Line: 2, Col: 12}, "syntax 2:12"},
	} {
		if _, f := table.Parse(x.family, x.text); f != x.fault {
			t.Fatalf("table.Parse of %.100q tells %v, want %v", x.text, f, x.fault)
		}
		for _, y := range whatever {
			isNotCompiled(t, x.text, x.family, y.depth, y.most, Refused{Err: api.ErrSyntax, Fault: x.fault}, x.word)
		}
	}
}

// TestP2002SpoiltTexts: texts without a pattern, bytes of which are turned.
func TestP2002SpoiltTexts(t *testing.T) {
	next := counter()
	seen := map[api.Errno]int{}
	for _, x := range samples(3000) {
		text := []byte(x.h.anyhow(next, x.family))
		for range min(len(text), 1+upTo(next, 2)) {
			text[upTo(next, len(text))] = one(next, []byte("0123456789./: #\nx\x00")...)
		}
		tab, f := table.Parse(x.family, string(text))
		depth := one(next, x.depth, 0, x.family+1)
		if f.Err != api.OK {
			seen[f.Err]++
			isNotCompiled(t, string(text), x.family, depth, math.MaxInt, Refused{Err: api.ErrSyntax, Fault: f}, "syntax "+strconv.Itoa(f.Line)+":"+strconv.Itoa(f.Col))
			continue
		}
		b, e := Make(tab, depth, math.MaxInt)
		seen[e]++
		if e == api.OK {
			isCompiled(t, string(text), x.family, depth, math.MaxInt, b)
		} else {
			isNotCompiled(t, string(text), x.family, depth, math.MaxInt, Refused{Err: e}, e.Error())
		}
	}
	for _, e := range []api.Errno{api.OK, api.ErrSyntax, api.ErrHop, api.ErrHost, api.ErrLen, api.ErrDepth} {
		if seen[e] < 15 {
			t.Errorf("only %d texts of %v: %v", seen[e], e, seen)
		}
	}
}

// TestP2002Families: ErrFamily comes ahead of all, and no line is told.
func TestP2002Families(t *testing.T) {
	for _, family := range noFamilies {
		for _, text := range []string{"", "x", "0.0.0.0/1 5", "0.0.0.0/1", "::/0 1", "10.0.0.0/8 0", "10.0.0.1/8 1"} {
			for _, y := range whatever {
				isNotCompiled(t, text, family, y.depth, y.most, Refused{Err: api.ErrFamily}, "family")
			}
		}
	}
}

// TestP2002Limit: just as many entries as there may be, one more, and a fault behind that.
func TestP2002Limit(t *testing.T) {
	const line = "0.0.0.0/1 5\n"
	most := strings.Repeat(line, api.MaxEntries)
	want := framed(32, 1, 3, codeOf("x1 i1:c0000000 r5 r0"))
	isCompiled(t, most, 32, 1, 36, want)
	isCompiled(t, "# none\n\n"+most+"\n#", 32, 1, 36, want)
	isNotCompiled(t, most, 32, 0, 36, Refused{Err: api.ErrDepth}, "depth")
	isNotCompiled(t, most, 32, 1, 35, Refused{Err: api.ErrSize}, "size")
	more := most + line
	fault := api.Fault{Err: api.ErrLimit, Line: api.MaxEntries + 1, Col: 1}
	for _, y := range whatever[4:7] {
		isNotCompiled(t, more, 32, y.depth, y.most, Refused{Err: api.ErrLimit, Fault: fault}, "limit 1048577:1")
	}
	fault.Line += 2
	isNotCompiled(t, "\n#\n"+more+line, 32, 1, 36, Refused{Err: api.ErrLimit, Fault: fault}, "limit 1048579:1")
	isNotCompiled(t, more+"0.0.0.0/1 0", 32, 0, 0, Refused{Err: api.ErrSyntax, Fault: api.Fault{Err: api.ErrHop, Line: api.MaxEntries + 2, Col: 11}}, "syntax 1048578:11")
	isNotCompiled(t, more, 33, 1, 36, Refused{Err: api.ErrFamily}, "family")
}

// TestP2002DepthAndSize: the depth comes first; Fault is zero.
func TestP2002DepthAndSize(t *testing.T) {
	for _, family := range families {
		long := prefixText(family, strings.Repeat("0", family)) + " 1"
		for _, text := range []string{"", long, long + "\n" + prefixText(family, "") + " 2"} {
			for _, depth := range []int{math.MinInt, -1, 0, family + 1, 2 * family, math.MaxInt} {
				for _, most := range []int{math.MinInt, -1, 0, 19, 100, math.MaxInt} {
					isNotCompiled(t, text, family, depth, most, Refused{Err: api.ErrDepth}, "depth")
				}
			}
		}
		for _, most := range []int{math.MinInt, math.MinInt + 16, -1, 0, 1, 15, 16, 19} {
			for _, text := range []string{"", long} {
				isNotCompiled(t, text, family, 1, most, Refused{Err: api.ErrSize}, "size")
				isNotCompiled(t, text, family, family, most, Refused{Err: api.ErrSize}, "size")
			}
		}
		isNotCompiled(t, long, family, 1, math.MaxInt, Refused{Err: api.ErrSize}, "size")
	}
}

// TestP2002ErrorsWords: of each number, without a fault and with each one; line and byte as they are.
func TestP2002ErrorsWords(t *testing.T) {
	for _, e := range append(errnos, api.OK, 99, -1) {
		isRefusal(t, &Refused{Err: e}, Refused{Err: e}, e.Error())
		// Only where there is a fault its place is told.
		lost := Refused{Err: e, Fault: api.Fault{Line: 3, Col: 4}}
		isRefusal(t, &lost, lost, e.Error())
		for _, f := range errnos {
			for text, fault := range map[string]api.Fault{" 1:2": {Err: f, Line: 1, Col: 2}, " 0:0": {Err: f}, " 1048577:65536": {Err: f, Line: 1048577, Col: 65536}, " -3:-4": {Err: f, Line: -3, Col: -4}} {
				r := Refused{Err: e, Fault: fault}
				isRefusal(t, &r, r, e.Error()+text)
			}
		}
	}
	if s := (&Refused{Err: api.ErrSyntax, Fault: api.Fault{Err: api.ErrHop, Line: 12, Col: 34}}).Error(); s != "syntax 12:34" {
		t.Errorf("P2002: %s", s)
	}
}

// TestP2007JustOne: an image or a refusal, never both, never none; whatever is handed in.
func TestP2007JustOne(t *testing.T) {
	next := counter()
	seen := map[api.Errno]int{}
	for _, x := range samples(3000) {
		text := x.h.anyhow(next, x.family)
		if upTo(next, 3) == 0 {
			text = text[:upTo(next, len(text)+1)]
		}
		if upTo(next, 3) == 0 {
			text += string(someBytes(next, upTo(next, 9)))
		}
		family := one(next, x.family, x.family, x.family, x.family, 160-x.family, int(next()>>11))
		depth, most := one(next, x.depth, x.depth, -x.depth, int(next()>>11)), one(next, 10, 50, 1000, -1, math.MaxInt, int(next()))
		b, err := Compile(text, family, depth, most)
		if (err == nil) != (len(b) > 0) {
			t.Fatalf("P2007: Compile(%q, %d, %d, %d): %s, %v", text, family, depth, most, short(b), err)
		}
		if err == nil {
			seen[api.OK]++
			if len(b) > most || Load(b) != nil {
				t.Fatalf("P2007: Compile(%q, %d, %d, %d): %s", text, family, depth, most, short(b))
			}
			continue
		}
		r, ok := err.(*Refused)
		if !ok || !slices.Contains([]api.Errno{api.ErrFamily, api.ErrSyntax, api.ErrLimit, api.ErrDepth, api.ErrSize}, r.Err) {
			t.Fatalf("P2007: Compile(%q, %d, %d, %d): %v", text, family, depth, most, err)
		}
		seen[r.Err]++
	}
	for _, e := range []api.Errno{api.OK, api.ErrFamily, api.ErrSyntax, api.ErrDepth, api.ErrSize} {
		if seen[e] < 100 {
			t.Errorf("only %d of %v: %v", seen[e], e, seen)
		}
	}
}

// TestP2007Limits: the same image by each limit from its length on, ErrSize by each one below.
func TestP2007Limits(t *testing.T) {
	l, all := images(t, 150)
	for k, x := range l {
		text, b := x.h.text(x.family), all[k]
		if len(b) > 600 {
			continue
		}
		for most := -5; most < len(b)+40; most++ {
			if most < len(b) {
				isNotCompiled(t, text, x.family, x.depth, most, Refused{Err: api.ErrSize}, "size")
			} else {
				isCompiled(t, text, x.family, x.depth, most, b)
			}
		}
		for _, most := range enough {
			isCompiled(t, text, x.family, x.depth, most, b)
		}
	}
}

// TestT6OneImage: texts of one table, however they are written, have one image.
func TestT6OneImage(t *testing.T) {
	next := counter()
	l, all := images(t, 800)
	for k, x := range l {
		isCompiled(t, x.h.text(x.family), x.family, x.depth, math.MaxInt, all[k])
		for range 3 {
			isCompiled(t, x.h.anyhow(next, x.family), x.family, x.depth, math.MaxInt, all[k])
		}
		tab, f := table.Parse(x.family, x.h.anyhow(next, x.family))
		text, e := table.Text(tab)
		if f.Err != api.OK || e != api.OK {
			t.Fatalf("%v: %v, %v", x.h, f, e)
		}
		isCompiled(t, text, x.family, x.depth, math.MaxInt, all[k])
	}
	// What was said ahead of the last word on a prefix does not count, also where its image would be another one.
	isCompiled(t, "0.0.0.0/1 6\n0.0.0.0/1 7\n0.0.0.0/1 5", 32, 1, 36, framed(32, 1, 3, codeOf("x1 i1:c0000000 r5 r0")))
	isCompiled(t, "0.0.0.0/0 6\n0.0.0.0/0 9", 32, 1, 20, framed(32, 0, 1, codeOf("r9")))
}
