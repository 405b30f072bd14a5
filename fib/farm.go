package fib

import (
	"slices"
	"sync"

	"turnpike/addr"
	"turnpike/api"
	"turnpike/image"
	"turnpike/vm"
)

// dealsEach is how many deals there are for each goroutine, where there are so many addresses: so many that none has much more to do than another one.
const dealsEach = 64

// program is code, and the family by whose addresses it is run.
type program struct {
	family int
	code   []byte
}

// deal is addresses that stand beside one another in a list, and the places of their next hops.
type deal struct {
	words []api.Word
	hops  []int
}

// loaded is the program of bytes that Load takes.
func loaded(b []byte) (program, api.Errno) {
	if e := numberOf(Load(b)); e != api.OK {
		return program{}, e
	}
	h, code, e := image.Open(b, 0)
	return program{h.W, code}, e
}

// answer tells the next hop of an address, or why there is none.
func (p program) answer(w api.Word) (int, api.Errno) {
	r := vm.Run(p.family, p.code, w, api.MaxFuel)
	return r.Hop, r.Err
}

// hasAll tells whether all words are addresses of the family.
func (p program) hasAll(l []api.Word) bool {
	return !slices.ContainsFunc(l, func(w api.Word) bool { return addr.Right(p.family, w) != api.OK })
}

// answers tells the next hops of addresses by code that may be run, so that each has one. Of so many goroutines each writes only where it was dealt.
func (p program) answers(crew int, l []api.Word) []int {
	hops := make([]int, len(l))
	deals := make(chan deal)
	var all sync.WaitGroup
	all.Add(crew)
	for range crew {
		go func() {
			defer all.Done()
			for d := range deals {
				p.lookUp(d)
			}
		}()
	}
	size := dealSize(crew, len(l))
	for from := 0; from < len(l); from += size {
		to := min(from+size, len(l))
		deals <- deal{l[from:to], hops[from:to]}
	}
	close(deals)
	all.Wait()
	return hops
}

// dealSize is how many addresses of so many are dealt at a time. Of very many one by one would take longer to be dealt than to be looked up.
func dealSize(crew, addresses int) int {
	return 1 + addresses/(crew*dealsEach)
}

func (p program) lookUp(d deal) {
	for i, w := range d.words {
		d.hops[i], _ = p.answer(w)
	}
}
