package tree_test

import (
	"math/rand"
	"testing"

	"selvedge/api"
	"selvedge/token"
	"selvedge/tree"
)

// A second builder of another build, that follows the chapter's table row by row: nodes know their parents, the open elements are the current node and those that it stands in.

type twig struct {
	kind  uint8
	name  string
	attrs []api.Attr
	data  string
	up    *twig
	kids  []*twig
}

type second struct {
	root    *twig
	current *twig
	nodes   int
}

func isVoid(name string) bool { return chapterKinds[name] == 7 || chapterKinds[name] == 8 }

func endsParagraph(name string) bool {
	kind := chapterKinds[name]
	return 1 <= kind && kind <= 4 || kind == 8
}

func isWall(name string) bool {
	return (chapterKinds[name] == 1 || chapterKinds[name] == 4) && name != "div"
}

// opened tells the open element of a name.
func (s *second) opened(name string) *twig {
	for x := s.current; x != nil; x = x.up {
		if x.name == name {
			return x
		}
	}
	return nil
}

func (s *second) add(x *twig) (*twig, api.Errno) {
	if s.nodes == 16384 {
		return nil, api.ErrLimit
	}
	s.nodes++
	x.up = s.current
	s.current.kids = append(s.current.kids, x)
	return x, api.OK
}

func (s *second) step(t token.Token, number int) api.Errno {
	switch {
	case t.Kind == token.Doctype && number > 0:
		return api.ErrNest
	case t.Kind == token.Text && t.Data != "":
		return s.textRow(t.Data)
	case t.Kind != token.Start && t.Kind != token.End:
		return api.OK
	case chapterKinds[t.Name] == 0:
		return api.ErrElement
	case t.Kind == token.Start:
		return s.startRows(t)
	}
	return s.endRows(t.Name)
}

func (s *second) textRow(data string) api.Errno {
	if n := len(s.current.kids); n > 0 && s.current.kids[n-1].kind == api.Text {
		s.current.kids[n-1].data += data
		return api.OK
	}
	_, e := s.add(&twig{kind: api.Text, data: data})
	return e
}

// itemRow is the row of a li's start.
func (s *second) itemRow() api.Errno {
	for x := s.current; x != nil && !isWall(x.name); x = x.up {
		if x.name != "li" {
			continue
		}
		for s.current.name == "p" {
			s.current = s.current.up
		}
		if s.current != x {
			return api.ErrNest
		}
		s.current = x.up
		return api.OK
	}
	return api.OK
}

func (s *second) startRows(t token.Token) api.Errno {
	if t.Self && !isVoid(t.Name) {
		return api.ErrNest
	}
	if t.Name == "li" {
		if e := s.itemRow(); e != api.OK {
			return e
		}
	}
	if p := s.opened("p"); p != nil && endsParagraph(t.Name) {
		if s.current != p {
			return api.ErrNest
		}
		s.current = p.up
	}
	if chapterKinds[t.Name] == 4 && chapterKinds[s.current.name] == 4 || t.Name == "a" && s.opened("a") != nil {
		return api.ErrNest
	}
	depth := 0
	for x := s.current; x.up != nil; x = x.up {
		depth++
	}
	if depth == 200 {
		return api.ErrDepth
	}
	x, e := s.add(&twig{kind: api.Element, name: t.Name, attrs: t.Attrs})
	if e == api.OK && !isVoid(t.Name) {
		s.current = x
	}
	return e
}

func (s *second) endRows(name string) api.Errno {
	if isVoid(name) {
		return api.ErrNest
	}
	for chapterKinds[name] == 1 && (s.current.name == "p" || s.current.name == "li") || name == "li" && s.current.name == "p" {
		s.current = s.current.up
	}
	if s.current.name != name {
		return api.ErrNest
	}
	s.current = s.current.up
	return api.OK
}

// flatten tells a tree's nodes in the order in which they begin.
func flatten(root *twig) api.Tree {
	var t api.Tree
	var put func(x *twig, up int)
	put = func(x *twig, up int) {
		number := len(t)
		t = append(t, api.Node{Kind: x.kind, Name: x.name, Attrs: append([]api.Attr(nil), x.attrs...), Data: x.data, Up: up})
		for _, k := range x.kids {
			t[number].Kids = append(t[number].Kids, len(t))
			put(k, number)
		}
	}
	put(root, -1)
	return t
}

func buildSecond(l []token.Token) (api.Tree, api.Errno, int) {
	root := &twig{kind: api.Document}
	s := second{root: root, current: root, nodes: 1}
	for i, t := range l {
		if e := s.step(t, i); e != api.OK {
			return nil, e, i
		}
	}
	return flatten(root), api.OK, 0
}

// checkSecond holds the two builders against each other, and tells whether a tree was built.
func checkSecond(t *testing.T, l []token.Token) bool {
	t.Helper()
	u, e, number := tree.Build(l)
	v, f, at := buildSecond(l)
	if e != f || number != at || !sameTree(u, v) {
		t.Errorf("Build(%s) is %v, %d at %d; the second builder's %v, %d at %d", brief(l), u, e, number, v, f, at)
	}
	return e == api.OK
}

// all tells all rows of tokens up to a length, but those behind an error, which is told once.
func all(t *testing.T, tokens []token.Token, length int) {
	var longer func(l []token.Token)
	longer = func(l []token.Token) {
		if !checkSecond(t, l) || len(l) == length || t.Failed() {
			return
		}
		for _, x := range tokens {
			longer(append(l[:len(l):len(l)], x))
		}
	}
	longer(nil)
}

func tags(names ...string) []token.Token {
	var l []token.Token
	for _, n := range names {
		l = append(l, start(n), end(n))
	}
	return l
}

func TestAllShortRows(t *testing.T) { // P5.2
	var l []token.Token
	l = append(l, tags("p", "li", "div", "ul", "h1", "h2", "a", "b", "br", "hr", "table", "")...)
	l = append(l, selfClosed("br"), selfClosed("hr"), selfClosed("p"), selfClosed("b"), selfClosed("table"), text("x"), text(""), comment("x"), doctype(), token.Token{}, token.Token{Kind: 9, Name: "p", Data: "x"})
	all(t, l, 4)
}

func TestAllLongerRows(t *testing.T) { // P5.2
	all(t, tags("p", "li", "div", "ul", "b"), 6)
	all(t, append(tags("p", "li", "h1", "a"), start("h2"), start("br")), 6)
	all(t, []token.Token{text("x"), text("yz"), text(""), comment("x"), start("b"), end("b"), start("br"), {Kind: 200, Data: "x"}}, 6)
}

// randomTokens tells a row in which more is right than by chance: most ends are of what was begun last.
func randomTokens(random *rand.Rand, names []string) []token.Token {
	var l []token.Token
	var open []string
	for range random.Intn(40) {
		name := names[random.Intn(len(names))]
		switch k := random.Intn(20); {
		case k < 8:
			l = append(l, start(name))
			if !isVoid(name) {
				open = append(open, name)
			}
		case k < 14 && len(open) > 0:
			l = append(l, end(open[len(open)-1]))
			open = open[:len(open)-1]
		case k < 15:
			l = append(l, end(name))
		case k < 18:
			l = append(l, text(string(rune('a'+random.Intn(26)))))
		case k < 19:
			l = append(l, comment("x"))
		default:
			l = append(l, selfClosed("br"))
		}
	}
	return l
}

func TestRandomRows(t *testing.T) { // P5.2
	random := rand.New(rand.NewSource(5))
	built := 0
	for i := range 100000 {
		names := namesOf(allKinds)
		if i%2 == 0 {
			names = []string{"p", "li", "ul", "div", "b", "a", "h3"}
		}
		if checkSecond(t, randomTokens(random, names)) {
			built++
		}
	}
	if built < 5000 {
		t.Errorf("only %d were built", built)
	}
}
