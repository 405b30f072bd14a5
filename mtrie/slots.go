package mtrie

import (
	"turnpike/api"
	"turnpike/cost"
)

// byBits counts nodes by their bits.
type byBits [mostBits + 1]uint64

// slots tells how many slots so many nodes have together.
func (count byBits) slots() (api.Cost, api.Errno) {
	var all api.Cost
	for bits, nodes := range count {
		// Those of one kind fit: 2^128 and a number of 64 bits multiplied have 192.
		each, _ := cost.Pow(bits)
		some, _ := cost.Mul(each, nodes)
		sum, e := cost.Add(all, some)
		if e != api.OK {
			return api.Cost{}, e
		}
		all = sum
	}
	return all, api.OK
}
