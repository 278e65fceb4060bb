package cssparse

import (
	"iter"

	"selvedge/csstok"
)

// pieces tells the pieces of tokens, one behind the other.
func pieces(tokens []csstok.Token) iter.Seq[[]csstok.Token] {
	return func(yield func([]csstok.Token) bool) {
		for rest := tokens; len(rest) > 0; {
			n := lengthOfFirst(rest)
			if !yield(rest[:n]) {
				return
			}
			rest = rest[n:]
		}
	}
}

// lengthOfFirst tells how many tokens the first piece has.
func lengthOfFirst(tokens []csstok.Token) int {
	var open nest
	for i, t := range tokens {
		open.pass(t)
		if len(open) == 0 {
			return i + 1
		}
	}
	return len(tokens)
}

// within tells the tokens within a piece of {. Its last } need not be its own: that of {(} closes nothing.
func within(piece []csstok.Token) []csstok.Token {
	inner := piece[1:]
	n := 0
	for p := range pieces(inner) {
		if isSign(p[0], "}") {
			break
		}
		n += len(p)
	}
	return inner[:n]
}

// nest is the pieces that are open, each told by the sign that closes it.
type nest []string

// pass goes over a token, and tells whether that fits: a sign that closes no piece does not.
func (n *nest) pass(t csstok.Token) bool {
	if sign, opens := closingSign(t); opens {
		*n = append(*n, sign)
		return true
	}
	if !isSign(t, "}") && !isSign(t, ")") && !isSign(t, "]") {
		return true
	}
	last := len(*n) - 1
	if last < 0 || (*n)[last] != t.Value {
		return false
	}
	*n = (*n)[:last]
	return true
}

// closingSign tells the sign that closes the piece that a token opens, if it opens one.
func closingSign(t csstok.Token) (string, bool) {
	switch {
	case isSign(t, "{"):
		return "}", true
	case isSign(t, "("), t.Kind == csstok.Func:
		return ")", true
	case isSign(t, "["):
		return "]", true
	}
	return "", false
}
