package csstok

import (
	"strconv"
	"strings"

	"selvedge/utf"
)

// printer is a text under way; before is the token that was printed last.
type printer struct {
	strings.Builder
	before Token
}

func (p *printer) print(t Token) {
	if keepsApart(p.before, t) {
		p.WriteString("/**/")
	}
	switch t.Kind {
	case White:
		p.white()
	case Ident:
		p.name(t.Value, whereNoNameBegins)
	case Func:
		p.name(t.Value, whereNoNameBegins)
		p.WriteByte('(')
	case At:
		p.WriteByte('@')
		p.name(t.Value, whereNoNameBegins)
	case Hash:
		p.hash(t)
	case Text:
		p.quoted(t.Value)
		p.WriteByte('"')
	case Bad:
		p.quoted(t.Value)
	case Number, Sign, Delim:
		p.WriteString(t.Value)
	case Percent:
		p.WriteString(t.Value)
		p.WriteByte('%')
	case Measure:
		p.WriteString(t.Value)
		p.name(t.Unit, whereNoUnitBegins)
	case Open:
		p.WriteString("<!--")
	case Close:
		p.WriteString("-->")
	}
	p.before = t
}

// keepsApart: would these two, one right behind the other, be read as others?
func keepsApart(first, second Token) bool {
	switch first.Kind {
	case Ident, At, Hash, Number, Percent, Measure, Delim:
	default:
		return false
	}
	switch second.Kind {
	case Ident, Func, Number, Percent, Measure, Delim, Close:
		return true
	case Sign:
		return first.Kind == Ident && second.Value == "("
	}
	return false
}

// white is a line's end where a blank would be read as a part of what is before it.
func (p *printer) white() {
	if p.before.Kind == Bad || p.before.Kind == Delim && p.before.Value == "\\" {
		p.WriteByte('\n')
	} else {
		p.WriteByte(' ')
	}
}

func (p *printer) hash(t Token) {
	p.WriteByte('#')
	if t.ID {
		p.name(t.Value, whereNoNameBegins)
	} else {
		p.name(t.Value, nowhere)
	}
}

// name prints a name; where tells the place of a character that is a name's, but has to be escaped there, or less than 0.
func (p *printer) name(s string, where func(name []rune) int) {
	name := utf.Runes(s)
	place := where(name)
	for i, c := range name {
		if i == place || !isOfNames(c) {
			p.escape(c)
		} else {
			p.WriteRune(c)
		}
	}
}

func nowhere([]rune) int { return -1 }

// whereNoNameBegins tells the character for which the name would not be read as one.
func whereNoNameBegins(name []rune) int {
	first, second := at(name, 0), at(name, 1)
	switch {
	case isDigit(first) || first == '-' && second == none:
		return 0
	case first == '-' && isDigit(second):
		return 1
	}
	return -1
}

// whereNoUnitBegins tells also of an e that would be read as a part of the number ahead of it.
func whereNoUnitBegins(name []rune) int {
	power := at(name, 1)
	if power == '-' {
		power = at(name, 2)
	}
	if isE(at(name, 0)) && isDigit(power) {
		return 0
	}
	return whereNoNameBegins(name)
}

func (p *printer) quoted(s string) {
	p.WriteByte('"')
	for _, c := range utf.Runes(s) {
		switch c {
		case '\n', '\f', '\r':
			p.escape(c)
		case '"', '\\':
			p.WriteByte('\\')
			fallthrough
		default:
			p.WriteRune(c)
		}
	}
}

func (p *printer) escape(c rune) {
	p.WriteByte('\\')
	p.WriteString(strings.ToUpper(strconv.FormatInt(int64(c), 16)))
	p.WriteByte(' ')
}
