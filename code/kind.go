package code

import "turnpike/api"

// maxJump is the greatest number that three bytes hold.
const maxJump = 1<<24 - 1

// kind is what the instructions of an operation have in common: the bounds of N, the greatest N for which there is room in the first word (the bytes ahead of it are 00), and whether a map of N stands behind that word.
type kind struct {
	least, most int
	room        int
	hasMap      bool
}

// kindOf is an operation's kind; false, if it is no operation.
func kindOf(op int) (kind, bool) {
	var k kind
	switch op {
	case api.OIndex:
		k.hasMap = true
		fallthrough // it takes bits as OExtract does
	case api.OExtract:
		k.least, k.most, k.room = 1, api.MaxBits, 1<<8-1
	case api.OJump:
		k.least, k.most, k.room = 1, maxJump, maxJump
	case api.OReturn:
		k.least, k.most, k.room = 0, api.MaxHop, 1<<16-1
	default:
		return kind{}, false
	}
	return k, true
}

// takes tells whether a number is within the kind's bounds.
func (k kind) takes(n int) bool {
	return k.least <= n && n <= k.most
}
