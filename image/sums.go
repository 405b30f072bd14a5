package image

import "turnpike/wire"

// gap is how many bytes stand between two marks: so many are gone over at most to tell one sum.
const gap = 256

// sums tells the sums of stretches of a row. In a row that is full of heads each one may claim all that stands behind it: to go over the stretch for each of them would take the row's length squared.
type sums struct {
	row   []byte
	marks []uint32 // of number k: the sum of the first k gaps
}

// between is the sum of what stands from one place on ahead of another.
func (s *sums) between(from, to int) uint32 {
	// A sum is joined by exclusive or: joined a second time, what stands ahead of the stretch is taken out again.
	return joined(s.upTo(from), s.upTo(to), to-from)
}

// upTo is the sum of all that stands ahead of a place.
func (s *sums) upTo(place int) uint32 {
	number := place / gap
	s.markUpTo(number)
	return s.after(number, place)
}

// markUpTo makes marks that lack, up to that of a number: a row without heads needs none.
func (s *sums) markUpTo(number int) {
	if len(s.marks) == 0 {
		s.marks = append(s.marks, wire.Sum())
	}
	for last := len(s.marks) - 1; last < number; last++ {
		s.marks = append(s.marks, s.after(last, (last+1)*gap))
	}
}

// after goes on from a mark to a place.
func (s *sums) after(number, place int) uint32 {
	behind := s.row[number*gap : place]
	return joined(s.marks[number], wire.Sum(behind), len(behind))
}
