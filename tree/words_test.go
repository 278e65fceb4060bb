package tree_test

import (
	"fmt"
	"reflect"
	"strconv"
	"strings"
	"testing"

	"selvedge/api"
	"selvedge/token"
	"selvedge/tree"
)

// chapterElements is the chapter's table of elements, word for word.
const chapterElements = `
| 1, blocks | div ul ol section article header footer main nav aside blockquote figure |
| 2 | p |
| 3 | li |
| 4, headings | h1 h2 h3 h4 h5 h6 |
| 5, inline | span b i em strong u s small code bdi bdo abbr cite q sub sup mark |
| 6 | a |
| 7, void | br wbr |
| 8, a void block | hr |
`

// chapterKinds are the kinds that the table tells.
var chapterKinds = readKinds()

func readKinds() map[string]uint8 {
	told := map[string]uint8{}
	for _, row := range strings.Split(strings.TrimSpace(chapterElements), "\n") {
		cells := strings.Split(row, "|")
		for _, name := range strings.Fields(cells[2]) {
			told[name] = strings.TrimSpace(cells[1])[0] - '0'
		}
	}
	return told
}

// namesOf tells the elements of some kinds, as the table has them.
func namesOf(kinds string) []string {
	var names []string
	for _, name := range strings.Fields(strings.NewReplacer("|", " ", ",", " ").Replace(chapterElements)) {
		if kind := chapterKinds[name]; kind != 0 && strings.IndexByte(kinds, '0'+kind) >= 0 {
			names = append(names, name)
		}
	}
	return names
}

const (
	endParagraph = "12348"
	notVoid      = "123456"
	voids        = "78"
	allKinds     = notVoid + voids
)

// Tokens, in few words.

func start(name string, attrs ...api.Attr) token.Token {
	return token.Token{Kind: token.Start, Name: name, Attrs: attrs}
}

func selfClosed(name string) token.Token {
	return token.Token{Kind: token.Start, Name: name, Self: true}
}

func end(name string) token.Token     { return token.Token{Kind: token.End, Name: name} }
func text(data string) token.Token    { return token.Token{Kind: token.Text, Data: data} }
func comment(data string) token.Token { return token.Token{Kind: token.Comment, Data: data} }
func doctype() token.Token            { return token.Token{Kind: token.Doctype, Data: "html"} }

func many(n int, t token.Token) []token.Token {
	l := make([]token.Token, n)
	for i := range l {
		l[i] = t
	}
	return l
}

// brief writes tokens; of a long row its beginning.
func brief(l []token.Token) string {
	s := fmt.Sprintf("%v", l[:min(len(l), 12)])
	return s + " of " + strconv.Itoa(len(l))
}

// show writes what stands below a node: elements by their names and what is in them, texts in quotes.
func show(t api.Tree, i int) string {
	var parts []string
	for _, k := range t[i].Kids {
		switch n := t[k]; {
		case n.Kind == api.Text:
			parts = append(parts, strconv.Quote(n.Data))
		case len(n.Kids) == 0:
			parts = append(parts, n.Name)
		default:
			parts = append(parts, n.Name+"("+show(t, k)+")")
		}
	}
	return strings.Join(parts, " ")
}

// plain makes nil and empty lists one, since they mean the same.
func plain(t api.Tree) api.Tree {
	var l api.Tree
	for _, n := range t {
		if len(n.Attrs) == 0 {
			n.Attrs = nil
		}
		if len(n.Kids) == 0 {
			n.Kids = nil
		}
		l = append(l, n)
	}
	return l
}

func sameTree(a, b api.Tree) bool { return reflect.DeepEqual(plain(a), plain(b)) }

// checkBuild holds Build against the second builder, too.
func checkBuild(t *testing.T, l []token.Token, want string) {
	t.Helper()
	u, e, number := tree.Build(l)
	if e != api.OK || number != 0 || len(u) == 0 || show(u, 0) != want {
		t.Errorf("Build(%s) is %v, %d at %d, not %s", brief(l), u, e, number, want)
		return
	}
	checkSecond(t, l)
}

func checkRefused(t *testing.T, l []token.Token, want api.Errno, at int) {
	t.Helper()
	if u, e, number := tree.Build(l); len(u) != 0 || e != want || number != at {
		t.Errorf("Build(%s) is %d nodes, %d at %d, not %d at %d", brief(l), len(u), e, number, want, at)
	}
	checkSecond(t, l)
}

// checkTree asks for a document's tree, and that it is right.
func checkTree(t *testing.T, document, want string) {
	t.Helper()
	u, e, at := tree.Parse([]byte(document))
	if e != api.OK || at != 0 || len(u) == 0 || show(u, 0) != want {
		t.Errorf("Parse(%q) is %v, %d at %d, not %s", document, u, e, at, want)
		return
	}
	if tree.Right(u) != api.OK {
		t.Errorf("the tree of %q is not right: %v", document, u)
	}
	l, _, _ := token.Tokens(document)
	checkSecond(t, l)
}

func checkError(t *testing.T, document string, want api.Errno, at int) {
	t.Helper()
	if u, e, place := tree.Parse([]byte(document)); len(u) != 0 || e != want || place != at {
		t.Errorf("Parse(%q) is %v, %d at %d, not %d at %d", document, u, e, place, want, at)
	}
	if l, e, _ := token.Tokens(document); e == api.OK {
		checkSecond(t, l)
	}
}
