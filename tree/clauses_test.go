package tree_test

import (
	"regexp"
	"slices"
	"strings"

	"selvedge/api"
)

// What a right tree is, clause by clause, each asked by itself of each node, as the chapter's words have it.

type clause struct {
	name  string
	holds func(t api.Tree, i int) bool
}

// parent tells the number of a node's parent; -1, if none stands ahead of it.
func parent(t api.Tree, i int) int {
	if up := t[i].Up; i > 0 && 0 <= up && up < i {
		return up
	}
	return -1
}

// above tells the nodes that a node stands below, the nearest one first.
func above(t api.Tree, i int) []api.Node {
	var l []api.Node
	for i = parent(t, i); i >= 0; i = parent(t, i) {
		l = append(l, t[i])
	}
	return l
}

func isElement(n api.Node) bool { return n.Kind == api.Element }

func named(l []api.Node, name string) bool {
	return slices.ContainsFunc(l, func(n api.Node) bool { return isElement(n) && n.Name == name })
}

func children(t api.Tree, i int) []int {
	var l []int
	for k := 1; k < len(t); k++ {
		if t[k].Up == i {
			l = append(l, k)
		}
	}
	return l
}

func descendsFrom(t api.Tree, i, ancestor int) bool {
	for i >= 0 && i != ancestor {
		i = parent(t, i)
	}
	return i == ancestor
}

var namePattern = regexp.MustCompile(`^[a-z0-9_-]+$`)

func wellFormed(s string) bool {
	return !strings.Contains(s, "\x00") && strings.ToValidUTF8(s, "") == s
}

var clauses = []clause{
	{"document", func(t api.Tree, i int) bool { return i > 0 || t[0].Kind == api.Document && t[0].Up == -1 }},
	{"kind", func(t api.Tree, i int) bool { return i == 0 || t[i].Kind == api.Element || t[i].Kind == api.Text }},
	{"up", func(t api.Tree, i int) bool {
		up := parent(t, i)
		return i == 0 || up == 0 || up > 0 && isElement(t[up]) && !isVoid(t[up].Name)
	}},
	{"kids", func(t api.Tree, i int) bool { return slices.Equal(t[i].Kids, children(t, i)) }},
	{"order", func(t api.Tree, i int) bool {
		last, next := i, 0
		for k := i + 1; k < len(t); k++ {
			if descendsFrom(t, k, i) {
				last = k
			}
			if next == 0 && i > 0 && t[k].Up == t[i].Up {
				next = k
			}
		}
		return next == 0 || last < next
	}},
	{"nodes", func(t api.Tree, i int) bool { return len(t) <= 16384 }},
	{"subset", func(t api.Tree, i int) bool { return !isElement(t[i]) || chapterKinds[t[i].Name] != 0 }},
	{"attributes", func(t api.Tree, i int) bool { return len(t[i].Attrs) <= 16 }},
	{"names", func(t api.Tree, i int) bool {
		return !slices.ContainsFunc(t[i].Attrs, func(a api.Attr) bool {
			return !namePattern.MatchString(a.Name)
		})
	}},
	{"twice", func(t api.Tree, i int) bool {
		seen := map[string]int{}
		for _, a := range t[i].Attrs {
			seen[a.Name]++
		}
		return len(seen) == len(t[i].Attrs)
	}},
	{"no data", func(t api.Tree, i int) bool { return t[i].Kind != api.Text || t[i].Data != "" }},
	{"two texts", func(t api.Tree, i int) bool {
		before := 0
		for k := 1; k < i; k++ {
			if t[k].Up == t[i].Up {
				before = k
			}
		}
		return t[i].Kind != api.Text || before == 0 || t[before].Kind != api.Text
	}},
	{"empty", func(t api.Tree, i int) bool {
		n := t[i]
		return (n.Kind == api.Element || n.Name == "" && len(n.Attrs) == 0) && (n.Kind == api.Text || n.Data == "") && (n.Kind != api.Text || len(n.Kids) == 0)
	}},
	{"well-formed", func(t api.Tree, i int) bool {
		return wellFormed(t[i].Data) && !slices.ContainsFunc(t[i].Attrs, func(a api.Attr) bool { return !wellFormed(a.Value) })
	}},
	{"depth", func(t api.Tree, i int) bool {
		return !isElement(t[i]) || len(slices.DeleteFunc(above(t, i), func(n api.Node) bool { return !isElement(n) })) < 200
	}},
	{"p", func(t api.Tree, i int) bool {
		return !isElement(t[i]) || !endsParagraph(t[i].Name) || !named(above(t, i), "p")
	}},
	{"a", func(t api.Tree, i int) bool {
		return !isElement(t[i]) || t[i].Name != "a" || !named(above(t, i), "a")
	}},
	{"heading", func(t api.Tree, i int) bool {
		up := parent(t, i)
		return up < 0 || !isElement(t[i]) || !isElement(t[up]) || chapterKinds[t[i].Name] != 4 || chapterKinds[t[up].Name] != 4
	}},
	{"li", func(t api.Tree, i int) bool {
		if !isElement(t[i]) || t[i].Name != "li" {
			return true
		}
		for _, n := range above(t, i) {
			if isElement(n) && (n.Name == "li" || isWall(n.Name)) {
				return n.Name != "li"
			}
		}
		return true
	}},
}

// broken tells the clauses that don't hold; "none" of a tree without nodes.
func broken(t api.Tree) []string {
	if len(t) == 0 {
		return []string{"none"}
	}
	var l []string
	for _, c := range clauses {
		for i := range t {
			if !c.holds(t, i) {
				l = append(l, c.name)
				break
			}
		}
	}
	return l
}
