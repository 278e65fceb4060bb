package tree_test

import (
	"strings"
	"testing"

	"selvedge/api"
	"selvedge/token"
	"selvedge/tree"
)

func TestChaptersExamples(t *testing.T) { // P5.2, P5.3
	checkTree(t, "<p>a<p>b", `p("a") p("b")`)
	checkTree(t, "<ul><li>a<li>b</ul>", `ul(li("a") li("b"))`)
	checkTree(t, "<p>a<!-- x -->b", `p("ab")`)
	checkError(t, "<b><p>x</b>", api.ErrNest, 3)
	checkError(t, "</br>", api.ErrNest, 0)
	checkError(t, "<p><b><div>", api.ErrNest, 2)
	checkError(t, "<a><a>", api.ErrNest, 1)
	checkError(t, "<table>", api.ErrElement, 0)
}

func TestExamplesOfTheWhole(t *testing.T) { // P5.2, P5.3: those of DOC.md
	checkTree(t, "<p>a <b>b</b>", `p("a " b("b"))`)
	checkTree(t, "x<span>y<div>z</div>w</span>", `"x" span("y" div("z") "w")`)
	checkTree(t, "a<br>b", `"a" br "b"`)
	checkTree(t, "<b><p>", `b(p)`)
	checkError(t, "<p><b><p>", api.ErrNest, 2)
}

func TestEveryField(t *testing.T) { // P5.2
	l := []token.Token{
		doctype(),
		start("div", api.Attr{Name: "dir", Value: "auto"}, api.Attr{Name: "class", Value: "a b"}),
		text("x"), comment("c"), text("y"),
		start("br", api.Attr{Name: "id"}), text("z"), end("div"),
		{Kind: token.Text, Data: "w", Name: "p", Attrs: []api.Attr{{Name: "a"}}, Self: true},
		{Kind: token.Start, Name: "hr", Data: "d", Self: true},
		{Kind: token.Start, Name: "b", Data: "d"},
		{Kind: token.End, Name: "b", Data: "d", Attrs: []api.Attr{{Name: "a"}}, Self: true},
	}
	want := api.Tree{
		{Kind: api.Document, Up: -1, Kids: []int{1, 5, 6, 7}},
		{Kind: api.Element, Name: "div", Attrs: []api.Attr{{Name: "dir", Value: "auto"}, {Name: "class", Value: "a b"}}, Up: 0, Kids: []int{2, 3, 4}},
		{Kind: api.Text, Data: "xy", Up: 1},
		{Kind: api.Element, Name: "br", Attrs: []api.Attr{{Name: "id"}}, Up: 1},
		{Kind: api.Text, Data: "z", Up: 1},
		{Kind: api.Text, Data: "w", Up: 0},
		{Kind: api.Element, Name: "hr", Up: 0},
		{Kind: api.Element, Name: "b", Up: 0},
	}
	if u, e, number := tree.Build(l); e != api.OK || number != 0 || !sameTree(u, want) {
		t.Errorf("%v, %d, %d", u, e, number)
	}
}

func TestNothing(t *testing.T) { // P5.2, P5.3
	want := api.Tree{{Kind: api.Document, Up: -1}}
	for _, l := range [][]token.Token{nil, {}, {text("")}, {comment("x")}, {doctype()}, {{}}, {{Kind: 6, Name: "p", Data: "x"}}, {{Kind: 255}}} {
		if u, e, number := tree.Build(l); e != api.OK || number != 0 || !sameTree(u, want) {
			t.Errorf("Build(%s) is %v, %d, %d", brief(l), u, e, number)
		}
	}
	checkTree(t, "", "")
	checkTree(t, "<!-- x --><!---->", "")
	checkTree(t, "<!doctype html>", "")
	if u, e, at := tree.Parse(nil); e != api.OK || at != 0 || !sameTree(u, want) {
		t.Errorf("Parse(nil) is %v, %d, %d", u, e, at)
	}
}

func TestTokensWhoseKindIsNone(t *testing.T) { // P5.2
	for kind := range 256 {
		if token.Start <= uint8(kind) && uint8(kind) <= token.Doctype {
			continue
		}
		none := token.Token{Kind: uint8(kind), Name: "table", Self: true, Data: "x", Attrs: []api.Attr{{Name: "a"}}}
		checkBuild(t, []token.Token{start("p"), text("a"), none, text("b"), none, start("br"), none}, `p("ab" br)`)
		// It is a token all the same.
		checkRefused(t, []token.Token{none, doctype()}, api.ErrNest, 1)
		checkRefused(t, []token.Token{none, none, end("p")}, api.ErrNest, 2)
	}
}

func TestComments(t *testing.T) { // P5.2
	checkTree(t, "<!--a--><p><!--b-->x<!--c--></p><!--d-->", `p("x")`)
	checkTree(t, "<ul><!--a--><li><!--b--><!--c--><li></ul>", `ul(li li)`)
}

func TestDoctypes(t *testing.T) { // P5.2
	checkTree(t, "<!doctype html><p>x", `p("x")`)
	checkTree(t, "<!DOCTYPE x y z>x", `"x"`)
	checkBuild(t, []token.Token{{Kind: token.Doctype}}, "")
	for _, s := range []string{"a<!doctype html>", " <!doctype html>", "<!-- x --><!doctype html>", "<br><!doctype html>", "<!doctype html><!doctype html>", "<p><!doctype html>"} {
		checkError(t, s, api.ErrNest, 1)
	}
	checkError(t, "<p>a<b><!doctype html>", api.ErrNest, 3)
	checkRefused(t, []token.Token{text(""), doctype()}, api.ErrNest, 1)
}

func TestTextsAreJoined(t *testing.T) { // P5.2
	for _, x := range [][2]string{
		{"a<!---->b", `"ab"`}, {"<!---->a<!---->b<!---->c<!---->", `"abc"`}, {"<p>a<!----><!---->b</p>c<!---->d", `p("ab") "cd"`}, {"a<!---->\n<!----> ", `"a\n "`},
		{"a<br>b", `"a" br "b"`}, {"a<hr><!---->b", `"a" hr "b"`}, {"a<b></b>b", `"a" b "b"`}, {"a<b>b</b>c", `"a" b("b") "c"`}, {"<b>a</b>b", `b("a") "b"`}, {"a<b>b", `"a" b("b")`},
		{"<p>a</p>b", `p("a") "b"`}, {"<i><b>a</b></i>b", `i(b("a")) "b"`}, {"<i><b>a</b>b</i>c", `i(b("a") "b") "c"`}, {"<ul><li>a</ul>b", `ul(li("a")) "b"`}, {"a<p>b<p>c", `"a" p("b") p("c")`},
	} {
		checkTree(t, x[0], x[1])
	}
	checkBuild(t, []token.Token{text("a"), text("b")}, `"ab"`)
	checkBuild(t, []token.Token{text("a"), text(""), text("b")}, `"ab"`)
	checkBuild(t, []token.Token{text(""), text("a"), {}, text("b"), comment("x"), text("c")}, `"abc"`)
	checkBuild(t, []token.Token{start("b"), text("a"), end("b"), text(""), text("b")}, `b("a") "b"`)
	checkBuild(t, []token.Token{text("a"), start("br"), text(""), start("br"), text("b"), text("b")}, `"a" br br "bb"`)
	checkBuild(t, []token.Token{text("\xFF"), text("\x00")}, `"\xff\x00"`)
	checkBuild(t, []token.Token{text("\xD7"), text("\x90")}, `"א"`)
}

func TestManyTextsAreJoined(t *testing.T) { // P5.2
	const n = 1 << 20
	u, e, _ := tree.Build(many(n, text("a")))
	if e != api.OK || len(u) != 2 || u[1].Data != strings.Repeat("a", n) {
		t.Errorf("%d texts: %d nodes, %d", n, len(u), e)
	}
}

func TestStartAndEndOfEachElement(t *testing.T) { // P5.2
	for _, name := range namesOf(notVoid) {
		checkBuild(t, []token.Token{start(name)}, name)
		checkBuild(t, []token.Token{start(name), end(name)}, name)
		checkBuild(t, []token.Token{start(name), text("x"), end(name), text("y")}, name+`("x") "y"`)
		checkBuild(t, []token.Token{start("span"), start(name), text("x"), end(name), end("span")}, `span(`+name+`("x"))`)
		checkRefused(t, []token.Token{selfClosed(name)}, api.ErrNest, 0)
		checkRefused(t, []token.Token{text("x"), selfClosed(name), end(name)}, api.ErrNest, 1)
		checkRefused(t, []token.Token{end(name)}, api.ErrNest, 0)
		checkRefused(t, []token.Token{start(name), end(name), end(name)}, api.ErrNest, 2)
	}
	for _, name := range namesOf(voids) {
		checkBuild(t, []token.Token{start(name), text("x"), selfClosed(name), text("y")}, name+` "x" `+name+` "y"`)
		checkBuild(t, []token.Token{start("b"), start(name), end("b"), selfClosed(name)}, "b("+name+") "+name)
		checkRefused(t, []token.Token{end(name)}, api.ErrNest, 0)
		checkRefused(t, []token.Token{start(name), end(name)}, api.ErrNest, 1)
	}
}

func TestElementsOutsideTheSubset(t *testing.T) { // P5.2
	for _, name := range []string{"table", "html", "body", "head", "img", "script", "h7", "P", "", " ", "Br", "\x00", "p ", "dl"} {
		for _, x := range []token.Token{start(name), end(name), selfClosed(name), {Kind: token.End, Name: name, Self: true}} {
			checkRefused(t, []token.Token{x}, api.ErrElement, 0)
			checkRefused(t, []token.Token{start("p"), text("a"), x, end("b")}, api.ErrElement, 2)
		}
	}
	checkError(t, "<p>a</table>", api.ErrElement, 2)
	checkError(t, "<table/>", api.ErrElement, 0)
	checkTree(t, "<P>a</p><BR/>", `p("a") br`)
}

func TestWhatEndsAParagraph(t *testing.T) { // P5.2
	for _, name := range namesOf(allKinds) {
		p := []token.Token{start("p"), text("a"), start(name)}
		inB := []token.Token{start("p"), start("b"), start(name)}
		if strings.IndexByte(endParagraph, '0'+chapterKinds[name]) < 0 {
			checkBuild(t, p, `p("a" `+name+`)`)
			checkBuild(t, inB, `p(b(`+name+`))`)
			continue
		}
		checkBuild(t, p, `p("a") `+name)
		checkBuild(t, append([]token.Token{start("div")}, p...), `div(p("a") `+name+`)`)
		checkRefused(t, inB, api.ErrNest, 2)
		checkRefused(t, []token.Token{start("p"), start("span"), start("i"), text("x"), start(name)}, api.ErrNest, 4)
		checkBuild(t, []token.Token{start("p"), start("b"), end("b"), start(name)}, `p(b) `+name)
		checkBuild(t, []token.Token{start("p"), end("p"), start("b"), start(name)}, `p b(`+name+`)`)
	}
	checkTree(t, "<b><p>x</p></b>", `b(p("x"))`)
	checkTree(t, "<div><p>a<p>b</div><p>c", `div(p("a") p("b")) p("c")`)
}

func TestItems(t *testing.T) { // P5.2
	for _, x := range [][2]string{
		{"<li>a<li>b", `li("a") li("b")`}, {"<ul><li>a</li><li>b</li></ul>", `ul(li("a") li("b"))`}, {"<li><p>a<li>b", `li(p("a")) li("b")`}, {"<li><p>a</li>b", `li(p("a")) "b"`},
		{"<ul><li>a<ul><li>b<li>c</ul><li>d</ul>", `ul(li("a" ul(li("b") li("c"))) li("d"))`}, {"<p>a<li>b", `p("a") li("b")`}, {"<ul><p>a<li>b", `ul(p("a") li("b"))`},
		{"<li><ul><p>a<li>b", `li(ul(p("a") li("b")))`}, {"<li><ul><p><li>b</ul><li>c", `li(ul(p li("b"))) li("c")`}, {"<div><li>a<li>b</div>", `div(li("a") li("b"))`},
		{"<li><b>x</b><li>y", `li(b("x")) li("y")`}, {"<li><section><div><b><li>x", `li(section(div(b(li("x")))))`},
	} {
		checkTree(t, x[0], x[1])
	}
	for _, name := range namesOf(notVoid) {
		if name == "p" || name == "li" {
			continue
		}
		within := []token.Token{start("li"), start(name), start("li")}
		wall := (chapterKinds[name] == 1 || chapterKinds[name] == 4) && name != "div"
		if wall {
			checkBuild(t, within, `li(`+name+`(li))`)
			checkBuild(t, []token.Token{start("li"), start("b"), start(name), start("div"), start("li"), start("p"), start("li")}, `li(b(`+name+`(div(li(p) li))))`)
			continue
		}
		checkRefused(t, within, api.ErrNest, 2)
		checkRefused(t, []token.Token{start("ul"), start("li"), start(name), start("p"), start("li")}, api.ErrNest, 4)
		checkBuild(t, []token.Token{start(name), start("li"), start("li")}, name+`(li li)`)
	}
	checkError(t, "<b><li>a<li>b</b>", api.ErrNest, 5)
	checkError(t, "<li><p><b><li>", api.ErrNest, 3)
	checkError(t, "<li><div><p><li>", api.ErrNest, 3)
	checkError(t, "<p><b><li>", api.ErrNest, 2)
	checkError(t, "<li><p><b></b><i><li>", api.ErrNest, 5)
}

func TestHeadings(t *testing.T) { // P5.2
	names := namesOf("4")
	for _, a := range names {
		for _, b := range names {
			checkRefused(t, []token.Token{start(a), start(b)}, api.ErrNest, 1)
			checkRefused(t, []token.Token{start(a), text("x"), start("p"), start(b)}, api.ErrNest, 3)
			checkBuild(t, []token.Token{start(a), end(a), start(b), end(b)}, a+" "+b)
			checkBuild(t, []token.Token{start("p"), start(a), start("b"), start(b)}, "p "+a+"(b("+b+"))")
			checkBuild(t, []token.Token{start(a), start("div"), start("p"), start(b)}, a+"(div(p "+b+"))")
			if a != b {
				checkRefused(t, []token.Token{start(a), end(b)}, api.ErrNest, 1)
			}
		}
	}
}

func TestAnchors(t *testing.T) { // P5.2
	checkTree(t, "<a>x</a><a>y</a>", `a("x") a("y")`)
	for _, name := range namesOf(notVoid) {
		if name == "a" {
			continue
		}
		checkRefused(t, []token.Token{start("a"), start(name), start("a")}, api.ErrNest, 2)
		checkRefused(t, []token.Token{start("a"), start("b"), start(name), text("x"), start("a")}, api.ErrNest, 4)
		checkBuild(t, []token.Token{start(name), start("a"), end("a"), start("a")}, name+"(a a)")
	}
	checkError(t, "<a><p>x</p><a>", api.ErrNest, 4)
}

func TestEnds(t *testing.T) { // P5.2
	for _, name := range namesOf("1") {
		checkBuild(t, []token.Token{start(name), start("p"), text("a"), end(name), text("b")}, name+`(p("a")) "b"`)
		checkBuild(t, []token.Token{start(name), start("li"), text("a"), end(name), text("b")}, name+`(li("a")) "b"`)
		checkBuild(t, []token.Token{start(name), start("li"), start("p"), text("a"), end(name), text("b")}, name+`(li(p("a"))) "b"`)
		checkRefused(t, []token.Token{start(name), start("b"), end(name)}, api.ErrNest, 2)
		checkRefused(t, []token.Token{start(name), start("b"), start("p"), end(name)}, api.ErrNest, 3)
		checkRefused(t, []token.Token{start("p"), end(name)}, api.ErrNest, 1)
		checkRefused(t, []token.Token{start("li"), start("p"), end(name)}, api.ErrNest, 2)
		if name != "ul" {
			checkRefused(t, []token.Token{start(name), start("ul"), end(name)}, api.ErrNest, 2)
		}
	}
	checkTree(t, "<li><p>a</li>b", `li(p("a")) "b"`)
	checkError(t, "<li><b>a</li>", api.ErrNest, 3)
	checkError(t, "<ul><li><div></li>", api.ErrNest, 3)
	checkError(t, "<ul></li>", api.ErrNest, 1)
	// Only the ends of blocks and of li close others.
	for _, name := range namesOf("4562") {
		if name != "p" {
			checkRefused(t, []token.Token{start(name), start("p"), end(name)}, api.ErrNest, 2)
		}
		checkRefused(t, []token.Token{start(name), start("li"), end(name)}, api.ErrNest, 2)
	}
	checkError(t, "<b><i></b></i>", api.ErrNest, 2)
	checkError(t, "<p><b></p>", api.ErrNest, 2)
	checkError(t, "<div><p></p></p>", api.ErrNest, 3)
}

func TestAllIsClosedAtTheEnd(t *testing.T) { // P5.2
	checkTree(t, "<div><ul><li><p><b><i>x", `div(ul(li(p(b(i("x"))))))`)
	for _, name := range namesOf(notVoid) {
		checkBuild(t, []token.Token{start("i"), start(name)}, "i("+name+")")
	}
}

func TestFirstErrorCounts(t *testing.T) { // P5.2
	wrong := map[string]api.Errno{"<table>": api.ErrElement, "</table>": api.ErrElement, "</br>": api.ErrNest, "</q>": api.ErrNest, "<q/>": api.ErrNest, "<!doctype x>": api.ErrNest}
	for a, e := range wrong {
		for b := range wrong {
			checkError(t, "x"+a+b, e, 1)
			checkError(t, "<p>x"+a+"y"+b, e, 2)
		}
	}
	// Of one token: first that it is none of the subset, then how it stands.
	checkRefused(t, []token.Token{start("p"), start("b"), selfClosed("table")}, api.ErrElement, 2)
	checkRefused(t, []token.Token{start("b"), end("table")}, api.ErrElement, 1)
}
