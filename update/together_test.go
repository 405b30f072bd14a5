package update

import (
	"bytes"
	"strings"
	"sync"
	"testing"

	"turnpike/api"
	"turnpike/fib"
	"turnpike/table"
)

// TestP2204WhileOthersChange: who looks up while others change is told what is so ahead of a change or behind it, never something between.
func TestP2204WhileOthersChange(t *testing.T) {
	for _, family := range families {
		a, b := hops{"0": 1, "01": 1, "111": 1}, hops{"0": 2, "01": 2, "10": 2}
		l, m := begun(t, family, a, 3, api.MaxImage)
		tables := []api.Table{a.table(family), b.table(family)}
		var images [2][]byte
		for i, x := range tables {
			images[i], _ = fib.Make(x, 3, api.MaxImage)
		}
		there, e := Between(tables[0], tables[1])
		if e != api.OK {
			t.Fatal(e)
		}
		var done sync.WaitGroup
		stop := make(chan struct{})
		for crew := range 4 {
			done.Go(func() {
				for {
					select {
					case <-stop:
						return
					default:
					}
					if hop := l.Lookup(wordOf("01")); hop != 1 && hop != 2 {
						t.Errorf("P2204: Lookup: %d", hop)
						return
					}
					if hop := l.Lookup(wordOf("111")); hop != 1 && hop != 0 {
						t.Errorf("P2204: Lookup: %d", hop)
						return
					}
					if got := l.Table(); !table.Same(got, tables[0]) && !table.Same(got, tables[1]) {
						t.Errorf("P2204: Table: %v", got)
						return
					}
					if got := l.Image(); !bytes.Equal(got, images[0]) && !bytes.Equal(got, images[1]) {
						t.Errorf("P2204: Image: %x", got)
						return
					}
					if n := l.Log(); n != 0 && n != 1 {
						t.Errorf("P2203: Log: %d", n)
						return
					}
					if e := l.Do(changes(set("", 9), api.Change{Kind: 5 + crew})); e != api.ErrKind {
						t.Errorf("P2202: %v", e)
						return
					}
				}
			})
		}
		for range 2000 {
			if e := l.Do(there); e != api.OK {
				t.Errorf("P2202: %v", e)
			}
			if e := l.Undo(); e != api.OK {
				t.Errorf("P2203: %v", e)
			}
		}
		close(stop)
		done.Wait()
		isModel(t, l, m)
	}
}

// TestP2202FromManySides: of those who change at the same time none takes away what another one does, and each state is undone once.
func TestP2202FromManySides(t *testing.T) {
	const crew, each = 8, 25
	for _, family := range families {
		l, m := begun(t, family, hops{"1": 1}, 4, api.MaxImage)
		var done sync.WaitGroup
		for i := range crew {
			done.Go(func() {
				s := "0" + bitsOf(i, 3)
				for n := range each {
					if e := l.Do(changes(set(s, n+1), set(s+"1", n+1), drop(s+"1"))); e != api.OK {
						t.Errorf("P2202: %v", e)
					}
					l.Lookup(wordOf(s))
				}
			})
		}
		done.Wait()
		want := hops{"1": 1}
		for i := range crew {
			want["0"+bitsOf(i, 3)] = each
		}
		isModel(t, l, &model{family: family, depth: 4, most: api.MaxImage, all: []hops{want}, log: crew * each})
		var undone [crew]int
		for i := range crew {
			done.Go(func() {
				for l.Undo() == api.OK {
					undone[i]++
				}
			})
		}
		done.Wait()
		sum := 0
		for _, n := range undone {
			sum += n
		}
		if sum != crew*each {
			t.Errorf("P2203: undone %d times; want %d", sum, crew*each)
		}
		isModel(t, l, m)
	}
}

// TestP8AtTheSameTime: live tables of which each is changed by a goroutine of its own.
func TestP8AtTheSameTime(t *testing.T) {
	shared := hops{"": 1, "0": 2, "011": 3}.table(32)
	c := changes(set("1", 4), drop("0"), set(strings.Repeat("01", 5), 5))
	want, _ := doneBy(32, hops{"": 1, "0": 2, "011": 3}, c)
	var done sync.WaitGroup
	for range 8 {
		done.Go(func() {
			for range 50 {
				l, e := New(shared, 8, api.MaxImage)
				if e != api.OK || l.Do(c) != api.OK || !table.Same(l.Table(), want.table(32)) || l.Undo() != api.OK || !table.Same(l.Table(), shared) {
					t.Errorf("P8: %v", e)
				}
				if back, e := Between(want.table(32), shared); e != api.OK || len(back) != 3 {
					t.Errorf("P2205: %v, %v", back, e)
				}
			}
		})
	}
	done.Wait()
}
