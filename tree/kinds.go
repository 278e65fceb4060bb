package tree

import "sync"

// The kinds of elements; 0 is no element's of the subset.
const (
	block uint8 = iota + 1
	paragraph
	item
	heading
	inline
	anchor
	void
	voidBlock
)

type element struct {
	name string
	kind uint8
}

const elementCount = 41

// elements tells all elements of the subset.
func elements() [elementCount]element {
	return [elementCount]element{
		{"div", block}, {"ul", block}, {"ol", block}, {"section", block}, {"article", block}, {"header", block},
		{"footer", block}, {"main", block}, {"nav", block}, {"aside", block}, {"blockquote", block}, {"figure", block},
		{"p", paragraph},
		{"li", item},
		{"h1", heading}, {"h2", heading}, {"h3", heading}, {"h4", heading}, {"h5", heading}, {"h6", heading},
		{"span", inline}, {"b", inline}, {"i", inline}, {"em", inline}, {"strong", inline}, {"u", inline},
		{"s", inline}, {"small", inline}, {"code", inline}, {"bdi", inline}, {"bdo", inline}, {"abbr", inline},
		{"cite", inline}, {"q", inline}, {"sub", inline}, {"sup", inline}, {"mark", inline},
		{"a", anchor},
		{"br", void}, {"wbr", void},
		{"hr", voidBlock},
	}
}

// Kind tells an element's kind by its name; 0, if it is none of the subset.
func Kind(name string) uint8 {
	for _, e := range elements() {
		if e.name == name {
			return e.kind
		}
	}
	return 0
}

// The kinds are put in the map when it is asked first; from then on it is only read.
var (
	kindsOnce sync.Once
	kinds     map[string]uint8
)

// KindByMap tells what Kind tells, by the map.
func KindByMap(name string) uint8 {
	kindsOnce.Do(makeKinds)
	return kinds[name]
}

func makeKinds() {
	kinds = map[string]uint8{}
	for _, e := range elements() {
		kinds[e.name] = e.kind
	}
}

func isVoid(kind uint8) bool { return kind == void || kind == voidBlock }

// endsParagraph: may no element of this kind stand within a p?
func endsParagraph(kind uint8) bool {
	switch kind {
	case block, paragraph, item, heading, voidBlock:
		return true
	}
	return false
}

// endsToo: does the end tag of an element of one kind close an open one of another kind that stands above it?
func endsToo(kind, above uint8) bool {
	switch kind {
	case block:
		return above == paragraph || above == item
	case item:
		return above == paragraph
	}
	return false
}
