package table

import (
	"strconv"
	"strings"

	"turnpike/addr"
	"turnpike/api"
	"turnpike/prefix"
)

// Parse reads a table; Text writes one.
func Parse(family int, text string) (api.Table, api.Fault) {
	if _, e := addr.Last(family); e != api.OK {
		return api.Table{}, api.Fault{Err: e}
	}
	r := reader{family: family, text: text, line: 1}
	l, f := r.entries()
	if f.Err != api.OK {
		return api.Table{}, f
	}
	return inOrder(family, l), api.Fault{}
}

func Text(t api.Table) (string, api.Errno) {
	if e := Check(t); e != api.OK {
		return "", e
	}
	var b strings.Builder
	for _, r := range t.Routes {
		// A right table's prefixes are right, so that this answers no error.
		at, _ := prefix.Text(t.W, r.At)
		b.WriteString(at)
		b.WriteByte(' ')
		b.WriteString(strconv.Itoa(r.Hop))
		b.WriteByte('\n')
	}
	return b.String(), api.OK
}

// reader goes over a table's text.
type reader struct {
	family int
	text   string
	at     int // the byte that is read next
	line   int // its line, from 1 on
	start  int // where that line begins
}

// What a byte of a line can be. A remark ends what counts, as the line's end and the text's do.
const (
	inWord = iota
	blank
	behind
)

func (r *reader) kind(at int) int {
	if at == len(r.text) {
		return behind
	}
	switch r.text[at] {
	case ' ', '\t':
		return blank
	case '#', '\n':
		return behind
	}
	return inWord
}

// fault is one at the byte that is read next.
func (r *reader) fault(e api.Errno) api.Fault {
	return api.Fault{Err: e, Line: r.line, Col: r.at - r.start + 1}
}

// entries reads all lines. Behind the first entry too many a line may still have a fault, which is told ahead of that one; so the others are read, but not kept.
func (r *reader) entries() ([]api.Route, api.Fault) {
	var (
		l       []api.Route
		route   api.Route
		f       api.Fault
		tooMany api.Fault
	)
line:
	if !r.toWord() {
		goto lineEnd
	}
	route, f = r.entry()
	if f.Err != api.OK {
		return nil, f
	}
	if len(l) < api.MaxEntries {
		l = append(l, route)
		goto lineEnd
	}
	if tooMany.Err == api.OK {
		tooMany = api.Fault{Err: api.ErrLimit, Line: r.line, Col: 1}
	}
lineEnd:
	if r.toNextLine() {
		goto line
	}
	if tooMany.Err != api.OK {
		return nil, tooMany
	}
	return l, api.Fault{}
}

// entry reads a line's words, from the first one on, at which the reader stands. It stays at each till that is known to be right, for a fault is told of its first byte.
func (r *reader) entry() (api.Route, api.Fault) {
	word := r.word()
	at, e := prefix.Parse(r.family, word)
	if e != api.OK {
		return api.Route{}, r.fault(e)
	}
	r.at += len(word)
	if !r.toWord() {
		return api.Route{}, r.fault(api.ErrSyntax)
	}
	word = r.word()
	hop, ok := nextHop(word)
	if !ok {
		return api.Route{}, r.fault(api.ErrHop)
	}
	r.at += len(word)
	if r.toWord() {
		return api.Route{}, r.fault(api.ErrSyntax)
	}
	return api.Route{At: at, Hop: hop}, api.Fault{}
}

// toWord goes on to the line's next word; false: there is none, and the reader stands at the byte behind what counts.
func (r *reader) toWord() bool {
gap:
	switch r.kind(r.at) {
	case blank:
		r.at++
		goto gap
	case inWord:
		return true
	}
	return false
}

// word tells the word at which the reader stands.
func (r *reader) word() string {
	to := r.at
inside:
	if r.kind(to) == inWord {
		to++
		goto inside
	}
	return r.text[r.at:to]
}

// toNextLine goes on to where the next line begins; false: there is none.
func (r *reader) toNextLine() bool {
	size := strings.IndexByte(r.text[r.at:], '\n')
	if size < 0 {
		return false
	}
	r.at += size + 1
	r.line++
	r.start = r.at
	return true
}

// nextHop reads a next hop; false: it is none.
func nextHop(s string) (int, bool) {
	n := 0
	for i := range len(s) {
		if s[i] < '0' || s[i] > '9' {
			return 0, false
		}
		n = 10*n + int(s[i]-'0')
		// Asked at each digit: it is 0 just where a nought stands ahead, and all digits may be more than any number holds.
		if !isHop(n) {
			return 0, false
		}
	}
	return n, true
}
