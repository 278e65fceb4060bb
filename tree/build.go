package tree

import (
	"strings"

	"selvedge/api"
	"selvedge/token"
)

// builder has a tree under way.
type builder struct {
	tree api.Tree
	open stack
	// data are the last node's, if it is a text: joined one by one, many short texts would be copied over and over.
	data strings.Builder
}

func newBuilder() *builder {
	return &builder{tree: api.Tree{{Kind: api.Document, Up: -1}}, open: newStack()}
}

func (b *builder) take(t token.Token, first bool) api.Errno {
	switch t.Kind {
	case token.Doctype:
		if !first {
			return api.ErrNest
		}
	case token.Text:
		return b.text(t.Data)
	case token.Start:
		return b.start(t)
	case token.End:
		return b.end(t.Name)
	}
	return api.OK
}

func (b *builder) text(data string) api.Errno {
	if data == "" {
		return api.OK
	}
	if last := b.tree[len(b.tree)-1]; last.Kind != api.Text || last.Up != b.open.top().node {
		if e := b.add(api.Node{Kind: api.Text}); e != api.OK {
			return e
		}
	}
	b.data.WriteString(data)
	return api.OK
}

func (b *builder) start(t token.Token) api.Errno {
	kind := Kind(t.Name)
	if kind == 0 {
		return api.ErrElement
	}
	if t.Self && !isVoid(kind) {
		return api.ErrNest
	}
	b.open.closeForStart(kind)
	if !b.open.admits(kind) {
		return api.ErrNest
	}
	if b.open.depth() >= api.MaxDepth {
		return api.ErrDepth
	}
	element := opened{node: len(b.tree), name: t.Name, kind: kind}
	if e := b.add(api.Node{Kind: api.Element, Name: strings.Clone(t.Name), Attrs: cloneAttrs(t.Attrs)}); e != api.OK {
		return e
	}
	if !isVoid(kind) {
		b.open.push(element)
	}
	return api.OK
}

func (b *builder) end(name string) api.Errno {
	if Kind(name) == 0 {
		return api.ErrElement
	}
	// Void elements are never open: their end tags are refused, too.
	if !b.open.closeForEnd(name) {
		return api.ErrNest
	}
	return api.OK
}

// add puts a node behind all others, as the last child of the current one.
func (b *builder) add(n api.Node) api.Errno {
	if len(b.tree) >= api.MaxNodes {
		return api.ErrLimit
	}
	b.endText()
	n.Up = b.open.top().node
	up := &b.tree[n.Up]
	up.Kids = append(up.Kids, len(b.tree))
	b.tree = append(b.tree, n)
	return api.OK
}

// endText gives the last node its data, if it is a text.
func (b *builder) endText() {
	if last := &b.tree[len(b.tree)-1]; last.Kind == api.Text {
		last.Data = b.data.String()
		b.data.Reset()
	}
}

func (b *builder) finish() api.Tree {
	b.endText()
	return b.tree
}

// cloneAttrs clones the texts too: nothing of an answer lies in what was handed in.
func cloneAttrs(l []api.Attr) []api.Attr {
	var clone []api.Attr
	for _, a := range l {
		clone = append(clone, api.Attr{Name: strings.Clone(a.Name), Value: strings.Clone(a.Value)})
	}
	return clone
}
