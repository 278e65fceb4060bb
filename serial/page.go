package serial

import (
	"strings"

	"selvedge/api"
	"selvedge/tree"
)

// page is a document under way, of at most MaxBytes bytes. With the first part that it can't take it is full, and takes no more.
type page struct {
	text strings.Builder
	full bool
}

func (p *page) write(parts ...string) {
	for _, s := range parts {
		if p.takes(s) {
			p.text.WriteString(s)
		}
	}
}

// writeEscaped asks ahead of escaping, which makes nothing shorter: what is far too long is not gone through.
func (p *page) writeEscaped(s string, escaped func(s string) string) {
	if p.takes(s) {
		p.write(escaped(s))
	}
}

// takes: is there room for it? If not, the page is full.
func (p *page) takes(s string) bool {
	if len(s) > api.MaxBytes-p.text.Len() {
		p.full = true
	}
	return !p.full
}

func (p *page) writeTree(t api.Tree) {
	var node func(i int)
	node = func(i int) {
		n := t[i]
		switch n.Kind {
		case api.Text:
			p.writeEscaped(n.Data, Escape)
		case api.Element:
			p.writeStart(n)
		}
		for _, k := range n.Kids {
			node(k)
		}
		if n.Kind == api.Element && !isVoid(n.Name) {
			p.write("</", n.Name, ">")
		}
	}
	node(0)
}

func (p *page) writeStart(n api.Node) {
	p.write("<", n.Name)
	for _, a := range n.Attrs {
		p.write(" ", a.Name, `="`)
		p.writeEscaped(a.Value, EscapeAttr)
		p.write(`"`)
	}
	p.write(">")
}

func isVoid(name string) bool {
	const void, voidBlock = 7, 8 // as layer 5 counts the kinds
	kind := tree.Kind(name)
	return kind == void || kind == voidBlock
}
