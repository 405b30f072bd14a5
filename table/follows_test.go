package table

import (
	"slices"
	"strconv"
	"strings"
	"testing"

	"turnpike/api"
	"turnpike/prefix"
)

// lines tells a table's entries as they are written, in order.
func lines(t *testing.T, x api.Table) []string {
	t.Helper()
	var l []string
	for _, r := range x.Routes {
		s, e := prefix.Text(x.W, r.At)
		if e != api.OK {
			t.Fatalf("no prefix: %v", r)
		}
		l = append(l, s+" "+strconv.Itoa(r.Hop))
	}
	return l
}

func TestP506ParseOfTextIsTheTable(t *testing.T) {
	for _, family := range families {
		for _, m := range someTables(family) {
			x := m.table(family)
			text, e := Text(x)
			if e != api.OK || text != strings.Join(append(lines(t, x), ""), "\n") {
				t.Fatalf("Text(%v) = %q, %v", x, text, e)
			}
			reads(t, family, text, x.Routes)
			if got, _ := Parse(family, text); !Same(got, x) || Check(got) != api.OK {
				t.Fatalf("Parse of Text of %v is %v", x, got)
			}
			// And by the other family, in which its prefixes are written otherwise, it is none.
			if got, f := Parse(160-family, text); len(x.Routes) > 0 && (f.Err == api.OK || f.Line != 1 || len(got.Routes) > 0) {
				t.Fatalf("it is read by the other family as %v, %v", got, f)
			}
		}
	}
	_, l := manyLines(api.MaxEntries)
	x := api.Table{W: 32, Routes: l}
	text, _ := Text(x)
	if got, f := Parse(32, text); f != (api.Fault{}) || !Same(got, x) {
		t.Errorf("Parse of Text of %d routes: %v", len(l), f)
	}
}

// TestP506InAnyOrder: told in any order, with other entries of their prefixes ahead, with remarks, blanks and lines without words, a table is the same.
func TestP506InAnyOrder(t *testing.T) {
	next := counter()
	fillers := []string{"", " ", "\t", "#", " # 10.0.0.0/8 0", "\t\t#x"}
	filler := func() string { return fillers[next()%uint64(len(fillers))] }
	for _, family := range families {
		for _, m := range someTables(family) {
			x := m.table(family)
			entries := mixed(lines(t, x), next)
			reads(t, family, strings.Join(entries, "\n"), x.Routes)
			var all []string
			for _, s := range entries {
				at, _, _ := strings.Cut(s, " ")
				// What is told ahead is in any order too; the last word on a prefix stands behind all of it.
				for range next() % 3 {
					all = append(all, at+" "+strconv.Itoa(1+int(next()%65535)))
				}
			}
			all = append(mixed(all, next), entries...)
			var b strings.Builder
			for _, s := range all {
				for range next() % 3 {
					b.WriteString(filler() + "\n")
				}
				at, hop, _ := strings.Cut(s, " ")
				b.WriteString(strings.Repeat(" ", int(next()%3)) + at + strings.Repeat("\t", 1+int(next()%3)) + hop + filler() + "\n")
			}
			reads(t, family, b.String()+filler(), x.Routes)
		}
	}
}

// TestP506AFaultsPlace: what changes nothing else moves a fault.
func TestP506AFaultsPlace(t *testing.T) {
	for _, ahead := range []struct {
		text string
		more int
	}{{"", 0}, {"\n", 1}, {"# x\n", 1}, {" \t\n\n#\n", 3}, {"1.0.0.0/8 1\n", 1}, {"1.0.0.0/8 1\n1.0.0.0/8 2 # x\n", 2}} {
		for _, gap := range []string{"", " ", "\t\t", " \t  "} {
			faults(t, 32, ahead.text+gap+"10.0.0.1/8 1", api.ErrHost, 1+ahead.more, 1+len(gap))
			faults(t, 32, ahead.text+gap+"10.0.0.0/8 0", api.ErrHop, 1+ahead.more, 12+len(gap))
			faults(t, 32, ahead.text+"10.0.0.0/8 "+gap+"0", api.ErrHop, 1+ahead.more, 12+len(gap))
			faults(t, 32, ahead.text+"10.0.0.0/8"+gap, api.ErrSyntax, 1+ahead.more, 11+len(gap))
			faults(t, 32, ahead.text+"10.0.0.0/8"+gap+"# 1", api.ErrSyntax, 1+ahead.more, 11+len(gap))
			faults(t, 32, ahead.text+gap+"10.0.0.0/8 1 "+gap+"1", api.ErrSyntax, 1+ahead.more, 14+2*len(gap))
		}
	}
}

// TestP506CanonAndParse: both make one table of the same entries.
func TestP506CanonAndParse(t *testing.T) {
	for _, family := range families {
		for _, text := range someTexts(family, 2000) {
			x, f := Parse(family, text)
			if f.Err != api.OK {
				continue
			}
			if e := Check(x); e != api.OK {
				t.Fatalf("%q is read as a table with %v", text, e)
			}
			var l []api.Route
			for _, line := range strings.Split(text, "\n") {
				counts, _, _ := strings.Cut(line, "#")
				if words := strings.Fields(counts); len(words) == 2 {
					hop, _ := strconv.Atoi(words[1])
					l = append(l, api.Route{At: readPrefix(family, words[0]), Hop: hop})
				}
			}
			if y, e := Canon(family, l); e != api.OK || !Same(x, y) {
				t.Fatalf("%q is read as %v, made of its entries it is %v, %v", text, x, y, e)
			}
		}
	}
}

func TestP507MatchIsTheFirstOfOver(t *testing.T) {
	for _, family := range families {
		for _, m := range someTables(family) {
			x := m.table(family)
			for _, s := range addresses(family, m) {
				r, ok := Match(x, ofBits(s))
				over := slices.Collect(Over(x, made(s)))
				if ok != (len(over) > 0) || ok && r != over[0] {
					t.Fatalf("Match(%v, %s) = %v, %v; Over: %v", m, s, r, ok, over)
				}
			}
		}
	}
}

// TestP507WithoutAnotherOne: a route that does not have an address says nothing of its next hop; of those that have it the longest does.
func TestP507WithoutAnotherOne(t *testing.T) {
	for _, family := range families {
		for _, m := range someTables(family) {
			words := addresses(family, m)
			if len(words) > 60 {
				words = words[:60]
			}
			x := m.table(family)
			for i, r := range x.Routes {
				other := api.Table{W: family, Routes: slices.Delete(slices.Clone(x.Routes), i, i+1)}
				for _, s := range words {
					was, is := Lookup(x, ofBits(s)), Lookup(other, ofBits(s))
					has := strings.HasPrefix(s, spell(r.At.Addr, r.At.Len))
					if !has && is != was {
						t.Fatalf("%v: without %v %s goes to %d", m, r, s, is)
					}
					if match, _ := Match(x, ofBits(s)); match != r && is != was {
						t.Fatalf("%v: without %v, which is not its match, %s goes to %d", m, r, s, is)
					}
				}
			}
		}
	}
}

func TestP2HandedIn(t *testing.T) {
	next := counter()
	for _, family := range families {
		for _, m := range someTables(family) {
			right := m.table(family).Routes
			for _, l := range [][]api.Route{right, mixed(right, next), slices.Concat(mixed(right, next), right), append(mixed(right, next), api.Route{}), append(slices.Clone(right), mark)} {
				l, asItWas := guarded(l)
				x := api.Table{W: family, Routes: l}
				Check(x)
				Text(x)
				Same(x, x)
				Canon(family, l)
				if !asItWas() {
					t.Fatal("what is handed in is changed")
				}
			}
		}
	}
}

func TestP2AnswersAreTheCallersOwn(t *testing.T) {
	next := counter()
	for _, family := range families {
		for _, m := range someTables(family) {
			x := m.table(family)
			l, asItWas := guarded(mixed(x.Routes, next))
			text := strings.Join(lines(t, x), "\n")
			made1, _ := Canon(family, l)
			made2, _ := Canon(family, l)
			sorted, sortedAsItWas := guarded(x.Routes)
			made3, _ := Canon(family, sorted)
			read1, _ := Parse(family, text)
			read2, _ := Parse(family, text)
			for _, own := range [][]api.Route{made1.Routes, read1.Routes, made3.Routes} {
				overwrite(own)
			}
			if !asItWas() || !sortedAsItWas() {
				t.Fatal("an answer shares memory with what was handed in")
			}
			if !slices.Equal(made2.Routes, x.Routes) || !slices.Equal(read2.Routes, x.Routes) {
				t.Fatal("two answers share memory")
			}
			overwrite(l)
			if !slices.Equal(made2.Routes, x.Routes) {
				t.Fatal("what was handed in is kept")
			}
		}
	}
}

// TestP2Sequences: two sequences of one table are of lists of their own.
func TestP2Sequences(t *testing.T) {
	x := nested()
	a, b := Within(x, api.Prefix{}), Within(x, api.Prefix{})
	for r := range a {
		r.Hop = 99
		r.At.Len = 7
	}
	goesOver(t, a, x.Routes)
	goesOver(t, b, x.Routes)
}

// TestP3 asks twice, with other calls in between.
func TestP3(t *testing.T) {
	for _, family := range families {
		texts := someTexts(family, 500)
		var tables []api.Table
		var found []api.Fault
		for _, text := range texts {
			x, f := Parse(family, text)
			tables, found = append(tables, x), append(found, f)
		}
		for i, text := range slices.Backward(texts) {
			if x, f := Parse(family, text); !Same(x, tables[i]) || f != found[i] {
				t.Fatalf("%q is read otherwise: %v, %v", text, x, f)
			}
		}
	}
}
