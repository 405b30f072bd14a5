package table

import (
	"iter"
	"math"
	"slices"
	"testing"

	"turnpike/api"
)

// goesOver asks that a sequence goes over just these.
func goesOver(t *testing.T, s iter.Seq[api.Route], want []api.Route) {
	t.Helper()
	if got := slices.Collect(s); !slices.Equal(got, want) {
		t.Fatalf("it goes over %v, want %v", got, want)
	}
}

// answers asks all calls of a table for what is known of it, at these prefixes and addresses.
func answers(t *testing.T, family int, m hops, prefixes, words []string) {
	t.Helper()
	keys := m.keys()
	x := api.Table{W: family, Routes: m.routes(keys)}
	for _, p := range prefixes {
		want, there := m[p]
		if hop, ok := Find(x, made(p)); hop != want || ok != there {
			t.Fatalf("P504: Find(%v, %s) = %d, %v, want %d, %v", m, p, hop, ok, want, there)
		}
		if got, want := slices.Collect(Within(x, made(p))), m.routes(within(keys, p)); !slices.Equal(got, want) {
			t.Fatalf("P505: Within(%v, %s) = %v, want %v", m, p, got, want)
		}
		if got, want := slices.Collect(Over(x, made(p))), m.routes(m.over(p)); !slices.Equal(got, want) {
			t.Fatalf("P505: Over(%v, %s) = %v, want %v", m, p, got, want)
		}
	}
	for _, s := range words {
		var want api.Route
		over := m.over(s)
		if len(over) > 0 {
			want = m.route(over[0])
		}
		if r, ok := Match(x, ofBits(s)); r != want || ok != (len(over) > 0) {
			t.Fatalf("P504: Match(%v, %s) = %v, %v, want %v", m, s, r, ok, want)
		}
		if hop := Lookup(x, ofBits(s)); hop != want.Hop {
			t.Fatalf("P504: Lookup(%v, %s) = %d, want %d", m, s, hop, want.Hop)
		}
	}
}

func TestP504And505OfSomeTables(t *testing.T) {
	for _, family := range families {
		for _, m := range someTables(family) {
			answers(t, family, m, places(family, m), addresses(family, m))
		}
	}
}

// TestP504And505OfAllSets: every set of the nodes of a small tree, asked at all of its nodes, and at what lies beside and above.
func TestP504And505OfAllSets(t *testing.T) {
	for _, family := range families {
		trees := roots(family)
		for i, root := range trees {
			var prefixes, words []string
			for i := range nodes {
				node := root + below(i+1)
				prefixes = append(prefixes, node)
				// The ends of the leaves are those of all other nodes too.
				if i+1 > nodes/2 {
					words = append(words, fill(node, family, "0"), fill(node, family, "1"))
				}
			}
			if n := len(root) - 1; n >= 0 {
				other := root[:n] + string('0'+'1'-rune(root[n]))
				prefixes = append(prefixes, "", root[:n], other)
				words = append(words, fill(other, family, "0"), fill(other, family, "1"))
			}
			// Each tree takes its share of the sets: together they take all.
			for set := i; set < 1<<nodes; set += len(trees) {
				answers(t, family, ofSet(root, set), prefixes, words)
			}
		}
	}
}

func TestP504ByHand(t *testing.T) {
	x := api.Table{W: 32, Routes: []api.Route{route4("10.0.0.0/8", 3), route4("10.1.0.0/16", 2), route4("10.1.0.0/32", 9), route4("12.0.0.0/7", 5)}}
	for s, want := range map[string]int{
		"10.1.2.3": 2, "10.2.0.0": 3, "11.0.0.0": 0, "9.255.255.255": 0, "10.0.0.0": 3, "10.255.255.255": 3, "10.0.255.255": 3, "10.1.0.0": 9, "10.1.0.1": 2, "10.1.255.255": 2,
		"11.255.255.255": 0, "12.0.0.0": 5, "13.255.255.255": 5, "14.0.0.0": 0, "0.0.0.0": 0, "255.255.255.255": 0,
	} {
		if got := Lookup(x, word4(s)); got != want {
			t.Errorf("P504: Lookup of %s = %d, want %d", s, got, want)
		}
		if r, ok := Match(x, word4(s)); r.Hop != want || ok != (want != 0) || !ok && r != (api.Route{}) {
			t.Errorf("P504: Match of %s = %v, %v", s, r, ok)
		}
	}
	for s, want := range map[string]int{"10.0.0.0/8": 3, "10.1.0.0/16": 2, "10.1.0.0/32": 9, "12.0.0.0/7": 5, "10.0.0.0/9": 0, "10.0.0.0/7": 0, "10.1.0.0/17": 0, "10.1.0.0/31": 0, "12.0.0.0/8": 0, "0.0.0.0/0": 0, "13.0.0.0/8": 0, "255.255.255.255/32": 0} {
		if hop, ok := Find(x, at4(s)); hop != want || ok != (want != 0) {
			t.Errorf("P504: Find of %s = %d, %v, want %d", s, hop, ok, want)
		}
	}
}

func TestP505ByHand(t *testing.T) {
	all, ten, one, last := route6("::/0", 1), route6("1::/16", 2), route6("1:1::/32", 3), route6("1:1::1/128", 4)
	x := api.Table{W: 128, Routes: []api.Route{all, ten, one, last}}
	goesOver(t, Within(x, at6("::/0")), x.Routes)
	goesOver(t, Within(x, at6("1::/16")), []api.Route{ten, one, last})
	goesOver(t, Within(x, at6("2::/15")), nil)
	goesOver(t, Within(x, at6("::/15")), []api.Route{ten, one, last})
	goesOver(t, Within(x, at6("1::/17")), []api.Route{one, last})
	goesOver(t, Within(x, at6("1:1::/128")), nil)
	goesOver(t, Within(x, at6("1:1::1/128")), []api.Route{last})
	goesOver(t, Over(x, at6("1:1::1/128")), []api.Route{last, one, ten, all})
	goesOver(t, Over(x, at6("1:1::/128")), []api.Route{one, ten, all})
	goesOver(t, Over(x, at6("1:1::/32")), []api.Route{one, ten, all})
	goesOver(t, Over(x, at6("1::/31")), []api.Route{ten, all})
	goesOver(t, Over(x, at6("2::/16")), []api.Route{all})
	goesOver(t, Over(x, at6("::/0")), []api.Route{all})
	for _, family := range families {
		goesOver(t, Within(api.Table{W: family}, api.Prefix{}), nil)
		goesOver(t, Over(api.Table{W: family}, api.Prefix{}), nil)
		goesOver(t, Within(api.Table{W: family, Routes: []api.Route{}}, made("1")), nil)
		goesOver(t, Over(api.Table{W: family, Routes: []api.Route{}}, made("1")), nil)
	}
}

func TestP504And505OfManyRoutes(t *testing.T) {
	_, l := manyLines(api.MaxEntries - 1)
	ten := route4("10.0.0.0/8", 65535)
	x := api.Table{W: 32, Routes: slices.Insert(l, 0, ten)}
	for i, r := range x.Routes {
		if i%97 > 0 && i < api.MaxEntries-1 {
			continue
		}
		if hop, ok := Find(x, r.At); hop != r.Hop || !ok {
			t.Fatalf("P504: Find of %v = %d, %v", r, hop, ok)
		}
		if i == 0 {
			continue
		}
		if got, ok := Match(x, r.At.Addr); got != r || !ok {
			t.Fatalf("P504: Match of %v = %v, %v", r, got, ok)
		}
		goesOver(t, Over(x, r.At), []api.Route{r, ten})
		goesOver(t, Within(x, r.At), []api.Route{r})
	}
	if got, ok := Match(x, word4("10.255.255.255")); got != ten || !ok {
		t.Errorf("P504: Match = %v, %v", got, ok)
	}
	if got := slices.Collect(Within(x, ten.At)); !slices.Equal(got, x.Routes) {
		t.Errorf("P505: Within of all: %d", len(got))
	}
	if got := slices.Collect(Within(x, at4("10.1.0.0/16"))); !slices.Equal(got, x.Routes[1+65536:1+2*65536]) {
		t.Errorf("P505: Within of some: %d", len(got))
	}
}

// sequences are those of a table that tests of sequences take, with what each goes over.
func sequences(x api.Table) []struct {
	s    iter.Seq[api.Route]
	want []api.Route
} {
	l := slices.Clone(x.Routes)
	return []struct {
		s    iter.Seq[api.Route]
		want []api.Route
	}{
		{Within(x, l[1].At), l[1:]}, {Within(x, api.Prefix{}), l}, {Over(x, l[3].At), []api.Route{l[3], l[2], l[1], l[0]}},
		{Over(x, made("1")), l[:1]}, {Within(x, made("1")), nil}, {Within(x, l[4].At), l[4:]},
	}
}

// nested is a table of which most prefixes lie within one another.
func nested() api.Table {
	return api.Table{W: 32, Routes: []api.Route{route4("0.0.0.0/0", 1), route4("10.0.0.0/8", 2), route4("10.1.0.0/16", 3), route4("10.1.1.0/24", 4), route4("10.2.0.0/16", 5)}}
}

func TestP505LeftEarly(t *testing.T) {
	for _, x := range sequences(nested()) {
		for enough := 1; enough <= len(x.want); enough++ {
			var got []api.Route
			// Called by hand, so that a call behind the false would be seen.
			x.s(func(r api.Route) bool {
				got = append(got, r)
				return len(got) < enough
			})
			if !slices.Equal(got, x.want[:enough]) {
				t.Fatalf("left behind %d: %v", enough, got)
			}
		}
		goesOver(t, x.s, x.want)
	}
}

func TestP505AgainAndWithinItself(t *testing.T) {
	for _, x := range sequences(nested()) {
		goesOver(t, x.s, x.want)
		goesOver(t, x.s, x.want)
		i := 0
		for r := range x.s {
			if r != x.want[i] {
				t.Fatalf("number %d is %v", i, r)
			}
			goesOver(t, x.s, x.want)
			for range x.s {
				break
			}
			i++
		}
		if i != len(x.want) {
			t.Errorf("%d of %d", i, len(x.want))
		}
	}
}

func TestP505Pulled(t *testing.T) {
	for _, x := range sequences(nested()) {
		next, stop := iter.Pull(x.s)
		other, stopOther := iter.Pull(x.s)
		for _, want := range x.want {
			if r, ok := next(); !ok || r != want {
				t.Fatalf("%v, %v, want %v", r, ok, want)
			}
			if r, ok := other(); !ok || r != want {
				t.Fatalf("the other one: %v, %v, want %v", r, ok, want)
			}
		}
		if r, ok := next(); ok {
			t.Errorf("and %v", r)
		}
		stop()
		stopOther()
	}
}

// TestP505AsItWasThen: a table that changes, ahead of the going over and in its midst.
func TestP505AsItWasThen(t *testing.T) {
	for i := range sequences(nested()) {
		was := nested()
		x := sequences(was)[i]
		overwrite(was.Routes)
		goesOver(t, x.s, x.want)

		was = nested()
		x = sequences(was)[i]
		n := 0
		for r := range x.s {
			if r != x.want[n] {
				t.Fatalf("number %d is %v, want %v", n, r, x.want[n])
			}
			n++
			overwrite(was.Routes)
		}
		if n != len(x.want) {
			t.Errorf("%d of %d", n, len(x.want))
		}
		// The field itself may be another list, and the prefix another one.
		was = nested()
		p := was.Routes[1].At
		s, up := Within(was, p), Over(was, p)
		was.Routes, was.W, p = nil, 128, api.Prefix{}
		goesOver(t, s, nested().Routes[1:])
		goesOver(t, up, []api.Route{nested().Routes[1], nested().Routes[0]})
	}
}

// TestP9 asks of what may not be handed in only that calls end, do not panic, and change nothing.
func TestP9(t *testing.T) {
	next := counter()
	odd := []api.Prefix{{}, {Len: -1}, {Len: math.MinInt}, {Len: math.MaxInt}, {Addr: lastSix}, {Addr: lastSix, Len: 129}, {Addr: lastSix, Len: -7}, {Addr: api.Word{Lo: 5}, Len: 3}, made("1"), made(fill("", 128, "1"))}
	var lists [][]api.Route
	for range 60 {
		var l []api.Route
		for range next() % 40 {
			p := odd[next()%uint64(len(odd))]
			if next()%2 == 0 {
				p = api.Prefix{Addr: api.Word{Hi: next(), Lo: next()}, Len: int(next()%200) - 30}
			}
			l = append(l, api.Route{At: p, Hop: int(next()%5) - 2})
		}
		lists = append(lists, l)
	}
	for _, family := range append(slices.Clone(noFamilies), families...) {
		for _, l := range lists {
			l, asItWas := guarded(l)
			x := api.Table{W: family, Routes: l}
			for _, p := range odd {
				Find(x, p)
				Match(x, p.Addr)
				Lookup(x, p.Addr)
				for range Within(x, p) {
				}
				for range Over(x, p) {
				}
			}
			if !asItWas() {
				t.Fatal("what is handed in is changed")
			}
		}
	}
}

func TestP2Search(t *testing.T) {
	for _, family := range families {
		for _, m := range someTables(family) {
			l, asItWas := guarded(m.table(family).Routes)
			x := api.Table{W: family, Routes: l}
			for _, s := range m.keys() {
				Find(x, made(s))
				Match(x, ofBits(s))
				Lookup(x, ofBits(s))
				for range Within(x, made(s)) {
				}
				for range Over(x, made(s)) {
				}
			}
			if !asItWas() {
				t.Fatal("what is handed in is changed")
			}
		}
	}
}
