package tree_test

import (
	"slices"
	"strings"
	"testing"

	"selvedge/api"
	"selvedge/token"
	"selvedge/tree"
)

// row joins rows of tokens.
func row(l ...[]token.Token) []token.Token { return slices.Concat(l...) }

// checkCount asks for a tree by its number of nodes.
func checkCount(t *testing.T, l []token.Token, want int) {
	t.Helper()
	u, e, number := tree.Build(l)
	if e != api.OK || number != 0 || len(u) != want {
		t.Errorf("Build(%s) is %d nodes, %d at %d, not %d nodes", brief(l), len(u), e, number, want)
		return
	}
	if tree.Right(u) != api.OK {
		t.Errorf("the tree of %s is not right", brief(l))
	}
	checkSecond(t, l)
}

func TestDeepestElements(t *testing.T) { // P5.2, P5.6
	for _, name := range []string{"span", "div", "ul", "b"} {
		deep := many(api.MaxDepth, start(name))
		checkCount(t, deep[1:], api.MaxDepth)
		checkCount(t, deep, api.MaxDepth+1)
		checkRefused(t, append(deep[:api.MaxDepth:api.MaxDepth], start(name)), api.ErrDepth, api.MaxDepth)
		checkRefused(t, append(deep[:api.MaxDepth:api.MaxDepth], start(name), start("table")), api.ErrDepth, api.MaxDepth)
	}
	deep := many(api.MaxDepth, start("span"))
	for _, name := range namesOf(allKinds) {
		checkRefused(t, row(deep, []token.Token{text("x"), start(name)}), api.ErrDepth, api.MaxDepth+1)
		checkCount(t, row(deep[1:], []token.Token{text("x"), start(name)}), api.MaxDepth+2)
	}
	for _, name := range namesOf(voids) {
		checkRefused(t, row(deep, []token.Token{selfClosed(name)}), api.ErrDepth, api.MaxDepth)
		// A void one is not open.
		checkCount(t, row(deep[1:], many(5, start(name)), deep[:1]), api.MaxDepth+6)
	}
	checkCount(t, row(deep, []token.Token{text("x"), comment("x"), text("x"), {}}), api.MaxDepth+2)
	// What is closed counts no more.
	checkCount(t, row(deep, []token.Token{end("span"), start("b"), text("x"), end("b"), start("br"), start("i")}), api.MaxDepth+5)
	checkRefused(t, row(deep, []token.Token{end("span"), start("b"), start("i")}), api.ErrDepth, api.MaxDepth+2)
	checkCount(t, row(deep[1:], many(9, start("p"))), api.MaxDepth+9)
	checkCount(t, row(deep[1:], many(9, start("li"))), api.MaxDepth+9)
	checkCount(t, row(deep[2:], []token.Token{start("li"), start("p"), start("li"), start("p")}), api.MaxDepth+3)
	checkRefused(t, row(deep[1:], []token.Token{start("p"), start("b")}), api.ErrDepth, api.MaxDepth)
}

func TestDepthBehindOtherErrors(t *testing.T) { // P5.2
	for _, x := range []struct {
		opening string
		t       token.Token
		e       api.Errno
	}{
		{"a", start("a"), api.ErrNest}, {"p", start("div"), api.ErrNest}, {"p", start("hr"), api.ErrNest}, {"li", start("li"), api.ErrNest}, {"b", selfClosed("b"), api.ErrNest},
		{"b", start("table"), api.ErrElement}, {"b", end("br"), api.ErrNest}, {"b", end("b"), api.ErrNest}, {"b", start("p"), api.ErrDepth}, {"ul", start("li"), api.ErrDepth},
	} {
		l := row([]token.Token{start(x.opening)}, many(api.MaxDepth-1, start("span")), []token.Token{x.t})
		checkRefused(t, l, x.e, api.MaxDepth)
	}
	checkRefused(t, row(many(api.MaxDepth-1, start("span")), []token.Token{start("h1"), start("h2")}), api.ErrNest, api.MaxDepth)
	checkRefused(t, row(many(api.MaxDepth, start("span")), []token.Token{doctype()}), api.ErrNest, api.MaxDepth)
}

func TestMostNodes(t *testing.T) { // P5.2, P5.6
	const most = api.MaxNodes - 1 // beside the document
	br := many(most, start("br"))
	checkCount(t, br, api.MaxNodes)
	checkCount(t, row(br[1:], []token.Token{text("x")}), api.MaxNodes)
	checkCount(t, row(br[1:], []token.Token{text("x"), comment("c"), text("y"), text(""), {}}), api.MaxNodes)
	checkCount(t, row(br[2:], []token.Token{start("div"), start("p"), end("div"), comment("x")}), api.MaxNodes)
	for _, x := range []token.Token{start("br"), selfClosed("hr"), start("p"), text("x")} {
		checkRefused(t, row(br, []token.Token{x}), api.ErrLimit, most)
		checkRefused(t, row([]token.Token{doctype(), comment("x")}, br, []token.Token{{}, x, start("table")}), api.ErrLimit, most+3)
	}
	checkCount(t, row(br, []token.Token{text(""), comment("x"), {}}), api.MaxNodes)
	checkRefused(t, row(br[1:], []token.Token{text("x"), start("b")}), api.ErrLimit, most)
	checkRefused(t, row(br[1:], []token.Token{start("b"), text("x")}), api.ErrLimit, most)
	// What closes a p at the limit makes none; the one too many is what counts.
	checkRefused(t, row(br[1:], []token.Token{start("p"), start("p")}), api.ErrLimit, most)
	checkCount(t, row(br[1:], []token.Token{start("p"), end("p")}), api.MaxNodes)
}

func TestLimitOfNodesBehindOtherErrors(t *testing.T) { // P5.2
	const most = api.MaxNodes - 1
	br := many(most, start("br"))
	for x, e := range map[string]api.Errno{"table": api.ErrElement, "q": api.ErrNest} {
		checkRefused(t, row(br, []token.Token{end(x)}), e, most)
		checkRefused(t, row(br, []token.Token{selfClosed(x)}), e, most)
	}
	checkRefused(t, row(br[1:], []token.Token{start("a"), start("a")}), api.ErrNest, most)
	checkRefused(t, row(br[2:], []token.Token{start("p"), start("b"), start("p")}), api.ErrNest, most)
	checkRefused(t, row(br, []token.Token{doctype()}), api.ErrNest, most)
	// Too deep is told ahead of one too many.
	checkRefused(t, row(br[api.MaxDepth:], many(api.MaxDepth, start("span")), []token.Token{start("b")}), api.ErrDepth, most)
	checkRefused(t, row(br[api.MaxDepth:], many(api.MaxDepth, start("span")), []token.Token{text("x")}), api.ErrLimit, most)
}

func TestMostNodesOfADocument(t *testing.T) { // P5.3, P5.6
	u, e, at := tree.Parse([]byte(strings.Repeat("<br>", api.MaxNodes-1)))
	if len(u) != api.MaxNodes || e != api.OK || at != 0 || tree.Right(u) != api.OK {
		t.Errorf("%d nodes, %d at %d", len(u), e, at)
	}
	u, e, at = tree.Parse([]byte(strings.Repeat("<br>", api.MaxNodes)))
	if len(u) != 0 || e != api.ErrLimit || at != api.MaxNodes-1 {
		t.Errorf("%d nodes, %d at %d", len(u), e, at)
	}
}

func TestManyAttributes(t *testing.T) { // P5.2, P5.4: Build takes what it is given, Right counts
	for n := range api.MaxAttrs + 3 {
		var attrs []api.Attr
		for i := range n {
			attrs = append(attrs, api.Attr{Name: string(rune('a' + i)), Value: "x"})
		}
		u, e, _ := tree.Build([]token.Token{start("p", attrs...), start("br", attrs...)})
		if e != api.OK || len(u) != 3 || !slices.Equal(u[1].Attrs, attrs) || !slices.Equal(u[2].Attrs, attrs) {
			t.Errorf("%d attributes: %v, %d", n, u, e)
		}
		if right := tree.Right(u) == api.OK; right != (n <= api.MaxAttrs) {
			t.Errorf("%d attributes: right: %v", n, right)
		}
	}
}
