package share

import "turnpike/api"

// outline is what is cheap to tell of a node: that of two which are the same is one, that of two others seldom.
type outline struct {
	bits, runs int
	sum        uint64
}

func outlineOf(n api.Node) outline {
	sum := uint64(0)
	for _, r := range n.Runs {
		sum = stir(sum, r.From.Hi)
		sum = stir(sum, r.From.Lo)
		sum = stir(sum, said(r))
	}
	return outline{bits: n.Bits, runs: len(n.Runs), sum: sum}
}

// said is what a run says, as one number.
func said(r api.Run) uint64 {
	x := uint64(r.N) << 1
	if r.Kid {
		x++
	}
	return x
}

// stir brings a number into a sum: each of its bits turns about half of the sum's, so that numbers which are much alike, as those of nodes are, do not fall together.
func stir(sum, x uint64) uint64 {
	sum ^= x
	sum = (sum ^ sum>>30) * 0xbf58476d1ce4e5b9
	sum = (sum ^ sum>>27) * 0x94d049bb133111eb
	return sum ^ sum>>31
}
