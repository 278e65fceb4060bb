package token

import (
	"strings"

	"selvedge/api"
	"selvedge/charref"
)

func (r *reader) startTag() (Token, api.Errno) {
	r.skip("<")
	return r.tag(Start)
}

func (r *reader) endTag() (Token, api.Errno) {
	r.skip("</")
	if r.rest == "" || !letter(r.rest[0]) {
		return Token{}, api.ErrTag
	}
	t, e := r.tag(End)
	if len(t.Attrs) > 0 || t.Self {
		return Token{}, api.ErrTag
	}
	return t, e
}

// tag reads a tag from its name on.
func (r *reader) tag(kind uint8) (Token, api.Errno) {
	t := Token{Kind: kind, Name: small(r.upTo(blanks + "/>"))}
	if !madeOf(t.Name, "") {
		return Token{}, api.ErrTag
	}
attributes:
	for {
		r.skipBlanks()
		switch {
		case r.skip(">"):
			break attributes
		case r.skip("/>"):
			t.Self = true
			break attributes
		case r.rest == "" || r.rest[0] == '/':
			return Token{}, api.ErrTag
		}
		a, e := r.attribute()
		if e == api.OK {
			e = oneMore(t.Attrs, a.Name)
		}
		if e != api.OK {
			return Token{}, e
		}
		t.Attrs = append(t.Attrs, a)
	}
	return t, api.OK
}

// oneMore tells what is wrong with one more attribute of this name.
func oneMore(l []api.Attr, name string) api.Errno {
	for _, a := range l {
		if a.Name == name {
			return api.ErrAttr
		}
	}
	if len(l) == api.MaxAttrs {
		return api.ErrLimit
	}
	return api.OK
}

func (r *reader) attribute() (api.Attr, api.Errno) {
	a := api.Attr{Name: small(r.upTo(blanks + "=/>"))}
	if a.Name == "" || !madeOf(a.Name, "-_") {
		return api.Attr{}, api.ErrAttr
	}
	r.skipBlanks()
	if !r.skip("=") {
		return a, api.OK
	}
	r.skipBlanks()
	value, ok := r.value()
	if !ok {
		return api.Attr{}, api.ErrAttr
	}
	a.Value = charref.Decode(value, true)
	return a, api.OK
}

// value reads a value as it is written; false, if it may not be.
func (r *reader) value() (string, bool) {
	for _, quote := range [...]string{`"`, "'"} {
		if r.skip(quote) {
			value := r.upTo(quote)
			return value, r.skip(quote)
		}
	}
	value := r.upTo(blanks + ">")
	return value, value != "" && !strings.ContainsAny(value, "\"'<=`")
}
