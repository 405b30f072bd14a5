package ranges

import (
	"math/bits"

	"turnpike/api"
)

// size is how many addresses a prefix has: each bit behind its own doubles them.
func size(family int, p api.Prefix) api.Cost {
	open := family - p.Len
	var n api.Cost
	n[len(n)-1-open/64] = 1 << (open % 64)
	return n
}

// plus is the sum. All addresses are at most 2^128, so that nothing is carried out of it.
func plus(a, b api.Cost) api.Cost {
	low, carry := bits.Add64(a[2], b[2], 0)
	middle, carry := bits.Add64(a[1], b[1], carry)
	return api.Cost{a[0] + b[0] + carry, middle, low}
}
