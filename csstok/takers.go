package csstok

import (
	"strings"

	"selvedge/utf"
)

// next takes the token that stands here; the text has not ended, and no comment stands here.
func (r *reader) next() Token {
	takers := [...]func(*reader) (Token, bool){
		(*reader).white,
		(*reader).quoted,
		(*reader).hash,
		(*reader).number, // ahead of close, and that ahead of name: a - may begin each of them
		(*reader).open,
		(*reader).close,
		(*reader).name,
		(*reader).atName,
		(*reader).sign,
	}
	for _, take := range takers {
		if t, ok := take(r); ok {
			return t
		}
	}
	return Token{Kind: Delim, Value: utf.String(r.take(1))}
}

// white ends at a comment, which is no White: what is behind that is a token of its own.
func (r *reader) white() (Token, bool) {
	if !isWhite(r.at(0)) {
		return Token{}, false
	}
	for isWhite(r.at(0)) {
		r.take(1)
	}
	return Token{Kind: White}, true
}

func (r *reader) quoted() (Token, bool) {
	quote := r.at(0)
	if quote != '"' && quote != '\'' {
		return Token{}, false
	}
	r.take(1)
	var text []rune
	for !r.ended() && r.at(0) != quote {
		if r.at(0) == '\n' {
			return Token{Kind: Bad, Value: utf.String(text)}, true
		}
		text = append(text, r.takeInQuotes()...)
	}
	if !r.ended() {
		r.take(1)
	}
	return Token{Kind: Text, Value: utf.String(text)}, true
}

// takeInQuotes takes the next character of a text in quotes; of a line that goes on, and of a \ at the end, nothing comes.
func (r *reader) takeInQuotes() []rune {
	switch {
	case r.skip("\\\n"):
		return nil
	case r.at(0) != '\\':
		return r.take(1)
	case r.at(1) == none:
		r.take(1)
		return nil
	}
	return []rune{r.takeEscape()}
}

func (r *reader) hash() (Token, bool) {
	if r.at(0) != '#' || !isOfNames(r.at(1)) && !r.escapeAt(1) {
		return Token{}, false
	}
	r.take(1)
	isID := r.nameAt(0)
	return Token{Kind: Hash, Value: r.takeName(), ID: isID}, true
}

func (r *reader) number() (Token, bool) {
	if !r.numberStands() {
		return Token{}, false
	}
	t := Token{Kind: Number, Value: r.takeNumber()}
	if r.nameAt(0) {
		t.Kind, t.Unit = Measure, r.takeName()
	} else if r.skip("%") {
		t.Kind = Percent
	}
	return t, true
}

func (r *reader) open() (Token, bool) { return r.fixed("<!--", Open) }

func (r *reader) close() (Token, bool) { return r.fixed("-->", Close) }

func (r *reader) fixed(s string, kind uint8) (Token, bool) {
	if !r.skip(s) {
		return Token{}, false
	}
	return Token{Kind: kind}, true
}

func (r *reader) name() (Token, bool) {
	if !r.nameAt(0) {
		return Token{}, false
	}
	t := Token{Kind: Ident, Value: r.takeName()}
	if r.skip("(") {
		t.Kind = Func
	}
	return t, true
}

func (r *reader) atName() (Token, bool) {
	if r.at(0) != '@' || !r.nameAt(1) {
		return Token{}, false
	}
	r.take(1)
	return Token{Kind: At, Value: r.takeName()}, true
}

func (r *reader) sign() (Token, bool) {
	if !strings.ContainsRune(",:;()[]{}", r.at(0)) {
		return Token{}, false
	}
	return Token{Kind: Sign, Value: utf.String(r.take(1))}, true
}
