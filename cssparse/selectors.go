package cssparse

import (
	"slices"

	"selvedge/csstok"
)

// rowOf tells the row of selectors that tokens are, if they are one.
func rowOf(tokens []csstok.Token) ([]Selector, bool) {
	var row []Selector
	var selector Selector
	r := reader{rest: tokens}
	join := First
	for {
		r.passWhite()
		compound, ok := r.takeCompound(join)
		if !ok {
			goto wrong
		}
		selector = append(selector, compound)
		if join = r.takeCombinator(); join != First {
			continue
		}
		row, selector = append(row, selector), nil
		if r.ended() {
			return row, true
		}
		if !isSign(r.at(0), ",") {
			goto wrong
		}
		r.take(1)
	}
wrong:
	return nil, false
}

// reader goes through the tokens of a row of selectors: rest is what has not been taken.
type reader struct {
	rest []csstok.Token
}

func (r *reader) ended() bool { return len(r.rest) == 0 }

// at tells the token that stands n further on; behind the end it is of no kind.
func (r *reader) at(n int) csstok.Token {
	if n < len(r.rest) {
		return r.rest[n]
	}
	return csstok.Token{}
}

// take takes n tokens; there are so many.
func (r *reader) take(n int) []csstok.Token {
	taken := r.rest[:n]
	r.rest = r.rest[n:]
	return taken
}

// passWhite tells whether there was any.
func (r *reader) passWhite() bool {
	before := len(r.rest)
	r.rest = withoutWhiteAhead(r.rest)
	return len(r.rest) < before
}

// takeCombinator takes what joins the next compound to the one ahead; it tells First where the selector ends.
func (r *reader) takeCombinator() uint8 {
	white := r.passWhite()
	switch {
	case isDelim(r.at(0), ">"):
		r.take(1)
		return Child
	case isDelim(r.at(0), "+"):
		r.take(1)
		return Next
	case white && !r.ended() && !isSign(r.at(0), ","):
		return Descendant
	}
	return First
}

// takeCompound takes the compound that stands here; a part that is wrong stays, and nothing that may stand behind a compound begins like it.
func (r *reader) takeCompound(join uint8) (Compound, bool) {
	before := len(r.rest)
	c := Compound{Join: join}
	switch {
	case r.at(0).Kind == csstok.Ident:
		c.Type = small(r.take(1)[0].Value)
	case isDelim(r.at(0), "*"):
		r.take(1)
	}
	for r.takePart(&c) {
	}
	return c, len(r.rest) < before
}

// takePart takes one more part of a compound, if there is one.
func (r *reader) takePart(c *Compound) bool {
	switch first := r.at(0); {
	case first.Kind == csstok.Hash && first.ID:
		c.IDs = append(c.IDs, r.take(1)[0].Value)
		return true
	case isDelim(first, ".") && r.at(1).Kind == csstok.Ident:
		c.Classes = append(c.Classes, r.take(2)[1].Value)
		return true
	case isSign(first, "["):
		n := lengthOfFirst(r.rest)
		test, ok := testOf(r.rest[:n])
		if ok {
			r.take(n)
			c.Tests = append(c.Tests, test)
		}
		return ok
	}
	return false
}

// testOf tells the test that a piece of [ is, if it is one.
func testOf(piece []csstok.Token) (Test, bool) {
	l := slices.DeleteFunc(slices.Clone(piece), func(t csstok.Token) bool { return t.Kind == csstok.White })
	if len(l) < 3 || l[1].Kind != csstok.Ident || !isSign(l[len(l)-1], "]") {
		return Test{}, false
	}
	test := Test{Name: small(l[1].Value)}
	if len(l) == 3 {
		return test, true
	}
	if len(l) != 5 || !isDelim(l[2], "=") || l[3].Kind != csstok.Ident && l[3].Kind != csstok.Text {
		return Test{}, false
	}
	test.Value, test.Has = l[3].Value, true
	return test, true
}
