package tree_test

import (
	"fmt"
	"math"
	"math/rand"
	"slices"
	"strconv"
	"strings"
	"testing"

	"selvedge/api"
	"selvedge/tree"
)

// Trees by hand.

func el(name string, kids ...*twig) *twig {
	return &twig{kind: api.Element, name: name, kids: kids}
}

func tx(data string) *twig { return &twig{kind: api.Text, data: data} }

func with(x *twig, attrs ...string) *twig {
	for i := 0; i < len(attrs); i += 2 {
		x.attrs = append(x.attrs, api.Attr{Name: attrs[i], Value: attrs[i+1]})
	}
	return x
}

func doc(kids ...*twig) api.Tree { return flatten(&twig{kids: kids}) }

// below puts one element into another one, and that into another, from the first name on.
func below(names []string, kids ...*twig) api.Tree {
	for i := len(names) - 1; i >= 0; i-- {
		kids = []*twig{el(names[i], kids...)}
	}
	return doc(kids...)
}

// cut writes a tree; of a long one its beginning.
func cut(u api.Tree) string {
	return fmt.Sprintf("%.300s", fmt.Sprint(len(u), " nodes: ", u))
}

func checkRight(t *testing.T, u api.Tree) {
	t.Helper()
	if l := broken(u); len(l) > 0 || tree.Right(u) != api.OK {
		t.Errorf("%s is not right: %d; broken is %v", cut(u), tree.Right(u), l)
	}
}

// checkBroken: this clause alone must be broken.
func checkBroken(t *testing.T, u api.Tree, clause string) {
	t.Helper()
	if l := broken(u); !slices.Equal(l, strings.Split(clause, ", ")) {
		t.Errorf("of %s is broken %q, not %q", cut(u), l, clause)
	}
	if e := tree.Right(u); e != api.ErrTree {
		t.Errorf("%s: %d, though broken is %s", cut(u), e, clause)
	}
}

// sample is a tree with something of each kind: 0 document, 1 ul, 2 li, 3 text, 4 li, 5 p, 6 b, 7 text, 8 br, 9 text, 10 hr.
func sample() api.Tree {
	return doc(with(el("ul", el("li", tx("a")), el("li", el("p", el("b", tx("c")), el("br"), tx("d")))), "class", "x y", "id", ""), el("hr"))
}

func spoilt(spoil func(u api.Tree)) api.Tree {
	u := sample()
	spoil(u)
	return u
}

func TestRightTrees(t *testing.T) { // P5.4
	checkRight(t, sample())
	checkRight(t, doc())
	checkRight(t, api.Tree{{Kind: api.Document, Up: -1, Attrs: []api.Attr{}, Kids: []int{}}})
	checkRight(t, doc(tx("a")))
	checkRight(t, doc(tx(" "), el("br"), tx("\n"), el("wbr"), el("b"), tx("a"), el("b", tx("a"), el("i"), tx("b")), tx("c")))
	for _, name := range namesOf(allKinds) {
		checkRight(t, doc(el(name)))
		checkRight(t, doc(el("span", el(name))))
		if !isVoid(name) {
			checkRight(t, doc(el(name, tx("x"))))
			checkRight(t, doc(el(name, tx("x"), el("br"), tx("y")), tx("z")))
		}
	}
}

func TestNoTree(t *testing.T) { // P5.4
	checkBroken(t, nil, "none")
	checkBroken(t, api.Tree{}, "none")
}

func TestFirstNode(t *testing.T) { // P5.4
	for _, up := range []int{0, 1, -2, 5, 10, 11, math.MinInt, math.MaxInt} {
		checkBroken(t, spoilt(func(u api.Tree) { u[0].Up = up }), "document")
		checkBroken(t, api.Tree{{Kind: api.Document, Up: up}}, "document")
	}
	checkBroken(t, spoilt(func(u api.Tree) { u[0].Kind, u[0].Name = api.Element, "div" }), "document")
	checkBroken(t, api.Tree{{Kind: api.Element, Name: "div", Up: -1}}, "document")
	checkBroken(t, api.Tree{{Kind: api.Text, Data: "x", Up: -1}}, "document")
	for _, kind := range []uint8{3, 4, 255} {
		checkBroken(t, spoilt(func(u api.Tree) { u[0].Kind = kind }), "document")
	}
	checkBroken(t, api.Tree{{}}, "document")
}

func TestKindsOfNodes(t *testing.T) { // P5.4
	for _, kind := range []uint8{api.Document, 3, 4, 128, 255} {
		checkBroken(t, spoilt(func(u api.Tree) { u[3].Kind, u[3].Data = kind, "" }), "kind")
		checkBroken(t, spoilt(func(u api.Tree) { u[8].Kind, u[8].Name = kind, "" }), "kind")
		checkBroken(t, doc(&twig{kind: kind}), "kind")
		checkBroken(t, doc(el("p"), &twig{kind: kind}, el("p")), "kind")
		checkBroken(t, doc(&twig{kind: kind, kids: []*twig{el("br")}}), "kind, up")
	}
}

func TestParents(t *testing.T) { // P5.4
	for _, name := range namesOf(voids) {
		checkBroken(t, doc(el(name, tx("x"))), "up")
		checkBroken(t, doc(el(name, el("b"))), "up")
		checkBroken(t, doc(el("div", el("b"), el(name, el("br")), el("b"))), "up")
	}
	for _, up := range []int{-1, 1, 2, 3, -2, 1 << 30, math.MinInt, math.MaxInt} {
		u := api.Tree{{Kind: api.Document, Up: -1}, {Kind: api.Element, Name: "b", Up: up}}
		if up == 1 {
			u[1].Kids = []int{1}
		}
		checkBroken(t, u, "up")
	}
	// One stands below the other one, and the other one below it.
	checkBroken(t, api.Tree{{Kind: api.Document, Up: -1}, {Kind: api.Element, Name: "b", Up: 2, Kids: []int{2}}, {Kind: api.Element, Name: "b", Up: 1, Kids: []int{1}}}, "up")
	// A parent that stands behind its child.
	checkBroken(t, api.Tree{{Kind: api.Document, Up: -1, Kids: []int{2}}, {Kind: api.Text, Data: "x", Up: 2}, {Kind: api.Element, Name: "b", Up: 0, Kids: []int{1}}}, "up")
	// A text's child, told by nobody or by the text.
	checkBroken(t, doc(&twig{kind: api.Text, data: "x", kids: []*twig{el("b")}}), "up, empty")
	checkBroken(t, spoilt(func(u api.Tree) { u[10].Name, u[10].Up, u[0].Kids = "b", 9, []int{1} }), "up, kids")
	// A node that is none of its own ones, but right as a parent.
	checkBroken(t, spoilt(func(u api.Tree) { u[10].Up = 1 }), "kids")
}

func TestKids(t *testing.T) { // P5.4
	for _, kids := range [][]int{nil, {1}, {10}, {10, 1}, {1, 1}, {1, 10, 10}, {1, 1, 10}, {1, 10, 11}, {1, 10, 0}, {0, 1, 10}, {1, 2, 10}, {1, 2}, {2, 10}, {1, 9}, {-1, 10}, {1, -10}, {1, math.MaxInt}, {math.MinInt, 10}, {1, 10, 1}, make([]int, 1000)} {
		checkBroken(t, spoilt(func(u api.Tree) { u[0].Kids = kids }), "kids")
	}
	for _, kids := range [][]int{nil, {6}, {6, 8}, {6, 9, 8}, {8, 6, 9}, {6, 7, 8, 9}, {6, 8, 9, 10}, {5, 6, 8, 9}} {
		checkBroken(t, spoilt(func(u api.Tree) { u[5].Kids = kids }), "kids")
	}
	for _, kids := range [][]int{{0}, {1}, {10}, {11}, {-1}, {math.MaxInt, math.MinInt}} {
		checkBroken(t, spoilt(func(u api.Tree) { u[10].Kids = kids }), "kids")       // hr
		checkBroken(t, spoilt(func(u api.Tree) { u[9].Kids = kids }), "kids, empty") // text
		checkBroken(t, spoilt(func(u api.Tree) { u[6].Kids = append(kids, u[6].Kids...) }), "kids")
		checkBroken(t, api.Tree{{Kind: api.Document, Up: -1, Kids: kids}}, "kids")
	}
	checkBroken(t, spoilt(func(u api.Tree) { u[2].Kids, u[4].Kids = u[4].Kids, u[2].Kids }), "kids")
}

// within makes a tree of elements b out of their parents, each with its children rising.
func within(ups ...int) api.Tree {
	u := api.Tree{{Kind: api.Document, Up: -1}}
	for i, up := range ups {
		u = append(u, api.Node{Kind: api.Element, Name: "b", Up: up})
		u[up].Kids = append(u[up].Kids, i+1)
	}
	return u
}

func TestOrderOfNodes(t *testing.T) { // P5.4
	for _, ups := range [][]int{{0, 0, 1}, {0, 0, 0, 1}, {0, 0, 0, 2}, {0, 1, 0, 2}, {0, 1, 0, 1}, {0, 1, 1, 2}, {0, 1, 2, 1, 3}, {0, 0, 2, 1}, {0, 1, 2, 3, 0, 4}, {0, 1, 0, 3, 2}, {0, 0, 1, 2}} {
		checkBroken(t, within(ups...), "order")
	}
	for _, ups := range [][]int{{0, 1, 0}, {0, 1, 2, 3}, {0, 1, 2, 0}, {0, 1, 2, 1, 4, 1, 0, 7}, {0, 0, 0}, {0, 0, 2, 3, 2, 0}} {
		checkRight(t, within(ups...))
	}
	// A text that joins its row too late.
	u := doc(el("b"), el("i"), tx("x"))
	u[3].Up, u[0].Kids, u[1].Kids = 1, []int{1, 2}, []int{3}
	checkBroken(t, u, "order")
}

func TestNumberOfNodes(t *testing.T) { // P5.4
	for n := api.MaxNodes - 1; n <= api.MaxNodes+2; n++ {
		flat, deep := within(make([]int, n-1)...), within(make([]int, n-2)...)
		deep = append(deep, api.Node{Kind: api.Text, Data: "x", Up: n - 2})
		deep[n-2].Kids = []int{n - 1}
		want := api.OK
		if n > api.MaxNodes {
			want = api.ErrTree
		}
		if tree.Right(flat) != want || tree.Right(deep) != want || len(deep) != n {
			t.Errorf("%d nodes: %d, %d, not %d", n, tree.Right(flat), tree.Right(deep), want)
		}
	}
}

func TestNamesOfElements(t *testing.T) { // P5.4
	for _, name := range []string{"", "table", "h7", "P", "B", "bb", "b ", " ", "\x00", "\xFF", "html", "B\u0130"} {
		checkBroken(t, doc(el(name)), "subset")
		checkBroken(t, doc(tx("x"), el("p", el(name)), tx("y")), "subset")
		checkBroken(t, spoilt(func(u api.Tree) { u[6].Name = name }), "subset")
		checkBroken(t, spoilt(func(u api.Tree) { u[10].Name = name }), "subset")
	}
}

func TestAttributesOfElements(t *testing.T) { // P5.4
	var attrs []string
	for n := range 40 {
		for _, name := range []string{"b", "br", "div", "hr"} {
			u := doc(el("p"), with(el(name), attrs...))
			if n <= api.MaxAttrs {
				checkRight(t, u)
			} else {
				checkBroken(t, u, "attributes")
			}
		}
		attrs = append(attrs, "n"+strconv.Itoa(n), "")
	}
	for b := range 256 {
		one := string([]byte{byte(b)})
		for _, name := range []string{one, "a" + one, one + "a", "a" + one + "b"} {
			u := doc(with(el("b"), "id", "x", name, "y"))
			if 'a' <= b && b <= 'z' || '0' <= b && b <= '9' || b == '-' || b == '_' {
				checkRight(t, u)
			} else {
				checkBroken(t, u, "names")
			}
		}
	}
	for _, name := range []string{"", "A", "aB", "Z", "é", "\u212A", "\u00DF", " ", "a b", "a=", "a.b", "xml:lang", "\x00", "a\x00", "\u0660", "\uFF41"} {
		checkBroken(t, doc(with(el("b"), name, "")), "names")
		checkBroken(t, doc(with(el("hr"), "id", "", name, "x")), "names")
	}
}

func TestTwoAttributesOfOneName(t *testing.T) { // P5.4
	checkBroken(t, doc(with(el("b"), "a", "x", "a", "y")), "twice")
	checkBroken(t, doc(with(el("br"), "a", "x", "a", "x")), "twice")
	checkBroken(t, doc(with(el("b"), "a", "", "b", "", "a", "")), "twice")
	checkBroken(t, doc(el("b"), with(el("b"), "c", "", "b", "", "d", "", "e", "", "b", "")), "twice")
	checkRight(t, doc(with(el("b"), "a", "", "aa", "", "a-", "", "_", ""), with(el("b", with(el("i"), "a", "")), "a", "")))
}

func TestTextsOfTrees(t *testing.T) { // P5.4
	checkBroken(t, doc(tx("")), "no data")
	checkBroken(t, doc(el("b", tx("a")), tx("")), "no data")
	checkBroken(t, spoilt(func(u api.Tree) { u[7].Data = "" }), "no data")
	checkBroken(t, doc(tx("a"), tx("b")), "two texts")
	checkBroken(t, doc(el("b", tx("a"), tx("b"))), "two texts")
	checkBroken(t, doc(el("b", el("br"), tx("a"), tx("b"), el("br"))), "two texts")
	checkBroken(t, doc(el("b", tx("a")), tx("b"), tx("c")), "two texts")
	checkBroken(t, spoilt(func(u api.Tree) { u[8] = api.Node{Kind: api.Text, Data: "x", Up: 5} }), "two texts")
	checkRight(t, doc(tx("a"), el("b"), tx("b"), el("br"), tx("c"), el("b", tx("d")), tx("e")))
}

func TestWhatAKindHasNot(t *testing.T) { // P5.4
	attrs := []api.Attr{{Name: "a"}}
	for _, spoil := range []func(u api.Tree){
		func(u api.Tree) { u[0].Name = "div" }, func(u api.Tree) { u[0].Attrs = attrs }, func(u api.Tree) { u[0].Data = "x" }, func(u api.Tree) { u[0].Name = "x" },
		func(u api.Tree) { u[1].Data = "x" }, func(u api.Tree) { u[6].Data = "x" }, func(u api.Tree) { u[8].Data = "x" }, func(u api.Tree) { u[10].Data = " " },
		func(u api.Tree) { u[3].Name = "b" }, func(u api.Tree) { u[3].Attrs = attrs }, func(u api.Tree) { u[9].Name = "x" }, func(u api.Tree) { u[7].Attrs = attrs },
	} {
		checkBroken(t, spoilt(spoil), "empty")
	}
	checkBroken(t, api.Tree{{Kind: api.Document, Up: -1, Data: "x"}}, "empty")
	checkRight(t, spoilt(func(u api.Tree) { u[3].Attrs, u[3].Kids, u[0].Attrs = []api.Attr{}, []int{}, []api.Attr{} }))
}

func TestWhatIsWellFormed(t *testing.T) { // P5.4
	for _, s := range []string{"\x00", "a\x00", "\x00a", "\xFF", "\x80", "\xC3", "\xC3(", "a\xC3", "\xC0\x80", "\xC1\xBF", "\xE0\x80\x80", "\xE2\x82", "\xED\xA0\x80", "\xED\xBF\xBF", "\xF0\x80\x80\x80", "\xF0\x9F\x98", "\xF4\x90\x80\x80", "\xF5\x80\x80\x80", "\u05D0\xD7"} {
		checkBroken(t, doc(tx(s)), "well-formed")
		checkBroken(t, doc(el("b", el("br"), tx("x"+s+"y"))), "well-formed")
		checkBroken(t, doc(with(el("b"), "id", s)), "well-formed")
		checkBroken(t, doc(with(el("br"), "a", "", "id", "x"+s)), "well-formed")
	}
	for _, s := range []string{"\x01", "\r", "\n", " ", "<", "&", "\"", "\x7F", "\u0080", "\u00A0", "\u2069", "\uD7FF", "\uE000", "\uFEFF", "\uFFFD", "\uFFFE", "\uFFFF", "\U00010000", "\U0010FFFF"} {
		checkRight(t, doc(tx(s), with(el("b", tx(s)), "id", s)))
	}
}

func TestDepthOfTrees(t *testing.T) { // P5.4
	for _, name := range []string{"span", "div", "ul"} {
		names := slices.Repeat([]string{name}, api.MaxDepth)
		checkRight(t, below(names, tx("x")))
		checkRight(t, below(names[1:], tx("x"), el("b"), el("br"), tx("y")))
		for _, other := range []string{"b", "br", "hr", "p", name} {
			checkRight(t, below(names[1:], tx("x"), el(other)))
			checkRight(t, below(names, tx("x")))
			checkBroken(t, below(names, tx("x"), el(other)), "depth")
		}
		checkBroken(t, below(append(names[:len(names):len(names)], name, name), tx("x")), "depth")
	}
}

func TestElementsBelowAParagraph(t *testing.T) { // P5.4
	for _, name := range namesOf(allKinds) {
		trees := []api.Tree{below([]string{"p", name}), below([]string{"p", "b", name}), below([]string{"div", "p", "b", "i", "u"}, tx("x"), el(name), el("br")), doc(el("p", el("b"), el(name)))}
		for _, u := range trees {
			if endsParagraph(name) {
				checkBroken(t, u, "p")
			} else {
				checkRight(t, u)
			}
		}
		checkRight(t, doc(el("p"), el(name)))
		checkRight(t, doc(el("b", el("p", el("i"))), el(name)))
	}
}

func TestAnchorsBelowAnchors(t *testing.T) { // P5.4
	checkBroken(t, below([]string{"a", "a"}), "a")
	checkRight(t, doc(el("a"), el("a"), el("b", el("a")), el("a")))
	for _, name := range namesOf(notVoid) {
		if name != "a" {
			checkBroken(t, below([]string{"a", name, "a"}), "a")
			checkBroken(t, below([]string{"a", "b", name}, tx("x"), el("a", tx("y"))), "a")
			checkRight(t, below([]string{name, "a"}))
		}
	}
}

func TestHeadingsInHeadings(t *testing.T) { // P5.4
	for _, a := range namesOf("4") {
		for _, b := range namesOf("4") {
			checkBroken(t, below([]string{a, b}), "heading")
			checkBroken(t, doc(el("div", el(a, tx("x"), el("br"), el(b)))), "heading")
			for _, between := range []string{"b", "div", "ul", "li", "a"} {
				checkRight(t, below([]string{a, between, b}))
			}
			checkRight(t, doc(el(a), el(b)))
		}
	}
}

func TestItemsBelowItems(t *testing.T) { // P5.4
	checkBroken(t, below([]string{"li", "li"}), "li")
	checkRight(t, doc(el("li"), el("li"), el("div", el("li"))))
	for _, name := range namesOf(notVoid) {
		switch {
		case name == "p" || name == "li":
		case isWall(name):
			checkRight(t, below([]string{"li", name, "li"}))
			checkRight(t, below([]string{"li", "div", "b", name, "div", "i", "li"}))
			checkBroken(t, below([]string{name, "li", "li"}), "li")
			checkBroken(t, below([]string{"li", name, "li", "div", "li"}), "li")
		default:
			checkBroken(t, below([]string{"li", name, "li"}), "li")
			checkBroken(t, below([]string{"ul", "li", "b", name, "u", "li"}), "li")
			checkRight(t, below([]string{name, "li"}))
		}
	}
}

// checkClauses holds Right against the clauses.
func checkClauses(t *testing.T, u api.Tree) bool {
	t.Helper()
	l := broken(u)
	if e := tree.Right(u); (e == api.OK) != (len(l) == 0) || e != api.OK && e != api.ErrTree {
		t.Fatalf("%v: %d; broken is %v", u, e, l)
	}
	return len(l) == 0
}

func TestAllSmallTrees(t *testing.T) { // P5.4
	nodes := []api.Node{{Kind: api.Text, Data: "x"}}
	for _, name := range []string{"p", "li", "ul", "div", "h1", "h2", "a", "b", "br", "hr"} {
		nodes = append(nodes, api.Node{Kind: api.Element, Name: name})
	}
	right := 0
	var grow func(u api.Tree)
	grow = func(u api.Tree) {
		if checkClauses(t, u) {
			right++
		}
		if len(u) == 5 {
			return
		}
		for up := range u {
			for _, n := range nodes {
				v := append(u[:len(u):len(u)], n)
				v[len(u)].Up = up
				v[up].Kids = append(v[up].Kids[:len(v[up].Kids):len(v[up].Kids)], len(u))
				grow(v)
			}
		}
	}
	grow(doc())
	if right < 1000 {
		t.Errorf("only %d are right", right)
	}
}

// change spoils something of a node, or leaves it right.
func change(random *rand.Rand, u api.Tree) {
	n := &u[random.Intn(len(u))]
	names := append(namesOf(allKinds), "", "table")
	numbers := []int{-1, 0, 1, 2, len(u) - 1, len(u), random.Intn(len(u)), math.MaxInt, math.MinInt}
	switch random.Intn(8) {
	case 0:
		n.Kind = uint8(random.Intn(4))
	case 1, 2:
		n.Name = names[random.Intn(len(names))]
	case 3:
		n.Up = numbers[random.Intn(len(numbers))]
	case 4:
		n.Kids = append(slices.Clone(n.Kids), numbers[random.Intn(len(numbers))])
	case 5:
		n.Data = []string{"", "x", "\x00", "\xFF"}[random.Intn(4)]
	case 6:
		n.Attrs = append(slices.Clone(n.Attrs), api.Attr{Name: []string{"a", "b", "A", ""}[random.Intn(4)], Value: []string{"", "\x00", "\xC3"}[random.Intn(3)]})
	case 7:
		if len(n.Kids) > 0 {
			k := random.Intn(len(n.Kids))
			n.Kids = append(slices.Clone(n.Kids[:k]), n.Kids[k+1:]...)
		}
	}
}

func TestRandomTrees(t *testing.T) { // P5.4
	random := rand.New(rand.NewSource(9))
	right := 0
	for i := 0; i < 60000; i++ {
		u, e, _ := tree.Build(randomTokens(random, []string{"p", "li", "ul", "div", "b", "a", "h3", "br"}))
		if e != api.OK {
			continue
		}
		checkClauses(t, u)
		for range 3 {
			if change(random, u); checkClauses(t, u) {
				right++
			}
		}
	}
	if right < 500 {
		t.Errorf("only %d are right", right)
	}
}
