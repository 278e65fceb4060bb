package csstok_test

import (
	"fmt"
	"slices"
	"strings"
	"testing"

	"selvedge/csstok"
)

var (
	white   = csstok.Token{Kind: csstok.White}
	open    = csstok.Token{Kind: csstok.Open}
	closing = csstok.Token{Kind: csstok.Close}
)

func ident(s string) csstok.Token   { return csstok.Token{Kind: csstok.Ident, Value: s} }
func call(s string) csstok.Token    { return csstok.Token{Kind: csstok.Func, Value: s} }
func at(s string) csstok.Token      { return csstok.Token{Kind: csstok.At, Value: s} }
func hash(s string) csstok.Token    { return csstok.Token{Kind: csstok.Hash, Value: s} }
func id(s string) csstok.Token      { return csstok.Token{Kind: csstok.Hash, Value: s, ID: true} }
func text(s string) csstok.Token    { return csstok.Token{Kind: csstok.Text, Value: s} }
func bad(s string) csstok.Token     { return csstok.Token{Kind: csstok.Bad, Value: s} }
func number(s string) csstok.Token  { return csstok.Token{Kind: csstok.Number, Value: s} }
func percent(s string) csstok.Token { return csstok.Token{Kind: csstok.Percent, Value: s} }
func sign(s string) csstok.Token    { return csstok.Token{Kind: csstok.Sign, Value: s} }
func delim(s string) csstok.Token   { return csstok.Token{Kind: csstok.Delim, Value: s} }
func measure(s, unit string) csstok.Token {
	return csstok.Token{Kind: csstok.Measure, Value: s, Unit: unit}
}

func row(l ...csstok.Token) []csstok.Token { return l }

// show tells tokens for a person, the first ones of many.
func show(l ...csstok.Token) string {
	var b strings.Builder
	for i, x := range l {
		if i == 40 {
			b.WriteString(" ..")
			break
		}
		fmt.Fprintf(&b, " %d:%.100q", x.Kind, x.Value)
		if x.Unit != "" {
			fmt.Fprintf(&b, ":%.100q", x.Unit)
		}
		if x.ID {
			b.WriteString(":ID")
		}
	}
	return "[" + strings.TrimPrefix(b.String(), " ") + "]"
}

// reading is a text and the tokens that it has to have.
type reading struct {
	s    string
	want []csstok.Token
}

func checkTokens(t *testing.T, s string, want ...csstok.Token) {
	t.Helper()
	l := csstok.Tokens(s)
	if !slices.Equal(l, want) {
		t.Errorf("Tokens(%.200q) is %s, not %s", s, show(l...), show(want...))
		return
	}
	checkReadAgain(t, s, l)
}

func checkReadings(t *testing.T, l []reading) {
	t.Helper()
	for _, x := range l {
		checkTokens(t, x.s, x.want...)
	}
}

// whiteInOne tells tokens with White in one that stands in a row: it is printed as blanks, of which no reader tells where a comment was.
func whiteInOne(l []csstok.Token) []csstok.Token {
	return slices.CompactFunc(slices.Clone(l), func(x, y csstok.Token) bool { return x == white && y == white })
}

// checkReadAgain asks for what follows: what is printed of a text's tokens is read as these, and none is empty.
func checkReadAgain(t *testing.T, s string, l []csstok.Token) {
	t.Helper()
	printed := csstok.Print(l)
	if again := csstok.Tokens(printed); !slices.Equal(again, whiteInOne(l)) {
		t.Errorf("%.200q: printed %.200q, it is read as %s, not %s", s, printed, show(again...), show(whiteInOne(l)...))
	}
	for i, x := range l {
		switch x.Kind {
		case csstok.White, csstok.Open, csstok.Close:
			if x.Value != "" {
				t.Errorf("%.200q: token %d is %s", s, i, show(x))
			}
		case csstok.Text, csstok.Bad:
		default:
			if x.Kind < csstok.White || x.Kind > csstok.Close || x.Value == "" {
				t.Errorf("%.200q: token %d is %s", s, i, show(x))
			}
		}
		if (x.Unit != "") != (x.Kind == csstok.Measure) || x.ID && x.Kind != csstok.Hash {
			t.Errorf("%.200q: token %d is %s", s, i, show(x))
		}
	}
}

func checkPrint(t *testing.T, want string, l ...csstok.Token) {
	t.Helper()
	if s := csstok.Print(l); s != want {
		t.Errorf("Print(%s) is %.200q, not %.200q", show(l...), s, want)
	}
}
