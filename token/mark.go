package token

import (
	"strings"

	"selvedge/api"
)

const (
	commentOpening = "<!--"
	commentClosing = "-->"
	doctypeOpening = "<!doctype"
)

func (r *reader) comment() (Token, api.Errno) {
	data, behind, ended := strings.Cut(r.rest[len(commentOpening):], commentClosing)
	if !ended || !commentData(data) {
		return Token{}, api.ErrMark
	}
	r.rest = behind
	return Token{Kind: Comment, Data: strings.Clone(data)}, api.OK
}

// commentData: may a comment have these data? (HTML would end it elsewhere, or takes them for a fault.)
func commentData(data string) bool {
	return !strings.HasPrefix(data, ">") && !strings.HasPrefix(data, "->") &&
		!strings.Contains(data, "--!>") && !strings.Contains(data, commentOpening) &&
		!strings.HasSuffix(data, "<!-")
}

func opensDoctype(s string) bool {
	return len(s) >= len(doctypeOpening) && small(s[:len(doctypeOpening)]) == doctypeOpening
}

func (r *reader) doctype() (Token, api.Errno) {
	data, behind, ended := strings.Cut(r.rest[len(doctypeOpening):], ">")
	if !ended {
		return Token{}, api.ErrMark
	}
	r.rest = behind
	return Token{Kind: Doctype, Data: strings.Clone(strings.Trim(data, blanks))}, api.OK
}

// noMark answers for <! that begins neither a comment nor a doctype, and for <?.
func (r *reader) noMark() (Token, api.Errno) { return Token{}, api.ErrMark }
