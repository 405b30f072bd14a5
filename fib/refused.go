package fib

import (
	"errors"

	"turnpike/api"
)

// refusedFor is why a text with a fault does not compile.
func refusedFor(f api.Fault) *Refused {
	switch f.Err {
	case api.ErrFamily:
		// No line of the text is at fault.
		return &Refused{Err: f.Err}
	case api.ErrLimit:
		return &Refused{Err: f.Err, Fault: f}
	}
	return &Refused{Err: api.ErrSyntax, Fault: f}
}

// numberOf tells the number of an error that may be none.
func numberOf(err error) api.Errno {
	var r *Refused
	if errors.As(err, &r) {
		return r.Err
	}
	return api.OK
}
