package token

import (
	"strings"

	"selvedge/api"
	"selvedge/charref"
)

// reader goes through a text: rest is what has not been read.
type reader struct {
	rest string
}

// next tells what reads the token with which the rest begins; the rest is not empty.
func (r *reader) next() func() (Token, api.Errno) {
	switch {
	case !leavesText(r.rest):
		return r.text
	case letter(r.rest[1]):
		return r.startTag
	case r.rest[1] == '/':
		return r.endTag
	case strings.HasPrefix(r.rest, commentOpening):
		return r.comment
	case opensDoctype(r.rest):
		return r.doctype
	}
	return r.noMark
}

// leavesText: does something else than a text begin with s, be it right or wrong?
func leavesText(s string) bool {
	return len(s) > 1 && s[0] == '<' && (letter(s[1]) || strings.IndexByte("/!?", s[1]) >= 0)
}

func (r *reader) text() (Token, api.Errno) {
	n := 1
	for n < len(r.rest) && !leavesText(r.rest[n:]) {
		n++
	}
	return Token{Kind: Text, Data: charref.Decode(r.take(n), false)}, api.OK
}

// take reads n bytes.
func (r *reader) take(n int) string {
	taken := r.rest[:n]
	r.rest = r.rest[n:]
	return taken
}

// upTo reads the bytes up to the first one of stops, or to the end.
func (r *reader) upTo(stops string) string {
	n := strings.IndexAny(r.rest, stops)
	if n < 0 {
		n = len(r.rest)
	}
	return r.take(n)
}

// skip reads what is told, if it stands there.
func (r *reader) skip(s string) bool {
	behind, ok := strings.CutPrefix(r.rest, s)
	r.rest = behind
	return ok
}

func (r *reader) skipBlanks() { r.rest = strings.TrimLeft(r.rest, blanks) }
