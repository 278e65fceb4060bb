package cssparse

import (
	"strings"

	"selvedge/csstok"
)

func isSign(t csstok.Token, sign string) bool { return t.Kind == csstok.Sign && t.Value == sign }

func isDelim(t csstok.Token, delim string) bool { return t.Kind == csstok.Delim && t.Value == delim }

// small tells a text in small letters: of A to Z, of no others.
func small(s string) string {
	return strings.Map(func(c rune) rune {
		if 'A' <= c && c <= 'Z' {
			return c - 'A' + 'a'
		}
		return c
	}, s)
}

func withoutWhiteAhead(l []csstok.Token) []csstok.Token {
	for len(l) > 0 && l[0].Kind == csstok.White {
		l = l[1:]
	}
	return l
}

func withoutWhiteBehind(l []csstok.Token) []csstok.Token {
	for len(l) > 0 && l[len(l)-1].Kind == csstok.White {
		l = l[:len(l)-1]
	}
	return l
}
