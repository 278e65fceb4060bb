package tree

import (
	"strings"
	"unicode/utf8"

	"selvedge/api"
)

func rightDocument(n api.Node) bool {
	return n.Kind == api.Document && n.Up == -1 && n.Name == "" && len(n.Attrs) == 0 && n.Data == ""
}

// rightPlaces goes through the nodes as they were read: each one's parent must be open still, and admit it.
func rightPlaces(t api.Tree) bool {
	open := newStack()
	for i := 1; i < len(t); i++ {
		n := t[i]
		if !open.closeTo(n.Up) {
			return false
		}
		switch n.Kind {
		case api.Text:
			// A text has no descendants: only the node ahead of it can be a text that is its sibling.
			if !rightText(n) || t[i-1].Kind == api.Text && t[i-1].Up == n.Up {
				return false
			}
		case api.Element:
			kind := Kind(n.Name)
			if !rightElement(n) || open.depth() >= api.MaxDepth || !open.admits(kind) {
				return false
			}
			if !isVoid(kind) {
				open.push(opened{node: i, name: n.Name, kind: kind})
			}
		default:
			return false
		}
	}
	return true
}

// rightKids: has each node just those children whose parent it is, rising? Their parents stand in the tree.
func rightKids(t api.Tree) bool {
	met := make([]int, len(t)) // of each node, how many of its children have been met
	for i := 1; i < len(t); i++ {
		up := t[i].Up
		if met[up] == len(t[up].Kids) || t[up].Kids[met[up]] != i {
			return false
		}
		met[up]++
	}
	for i, n := range t {
		if met[i] != len(n.Kids) {
			return false
		}
	}
	return true
}

func rightText(n api.Node) bool {
	return n.Name == "" && len(n.Attrs) == 0 && n.Data != "" && rightData(n.Data)
}

func rightElement(n api.Node) bool {
	if Kind(n.Name) == 0 || n.Data != "" || len(n.Attrs) > api.MaxAttrs {
		return false
	}
	for i, a := range n.Attrs {
		if !rightName(a.Name) || hasName(n.Attrs[:i], a.Name) || !rightData(a.Value) {
			return false
		}
	}
	return true
}

func rightName(name string) bool {
	for _, r := range name {
		if !('a' <= r && r <= 'z' || '0' <= r && r <= '9' || r == '-' || r == '_') {
			return false
		}
	}
	return name != ""
}

func hasName(l []api.Attr, name string) bool {
	for _, a := range l {
		if a.Name == name {
			return true
		}
	}
	return false
}

func rightData(s string) bool {
	return utf8.ValidString(s) && strings.IndexByte(s, 0) < 0
}
