package tree_test

import (
	"math/rand"
	"strings"
	"testing"

	"selvedge/api"
	"selvedge/token"
	"selvedge/tree"
	"selvedge/utf"
)

func TestErrorsOfBytes(t *testing.T) { // P5.3
	checkError(t, strings.Repeat("a", api.MaxBytes+1), api.ErrLimit, 0)
	checkError(t, strings.Repeat("<table>", api.MaxBytes), api.ErrLimit, 0)
	checkError(t, strings.Repeat("\x00", api.MaxBytes+1), api.ErrLimit, 0)
	u, e, at := tree.Parse([]byte(strings.Repeat("a", api.MaxBytes)))
	if e != api.OK || at != 0 || len(u) != 2 || len(u[1].Data) != api.MaxBytes {
		t.Errorf("%d nodes, %d at %d", len(u), e, at)
	}
	// The bytes are few enough, but three for each of them, once decoded, are too many for a text.
	checkError(t, "<p>"+strings.Repeat("\xFF", api.MaxBytes/3+1), api.ErrLimit, 0)
}

func TestErrorsOfTokens(t *testing.T) { // P5.3
	for _, x := range []struct {
		s  string
		e  api.Errno
		at int
	}{
		{"ab<?", api.ErrMark, 2}, {"<p>\x00", api.ErrNull, 3}, {"<p></>", api.ErrTag, 3}, {"<p>ab<p a a>", api.ErrAttr, 5}, {"<!x>", api.ErrMark, 0}, {"<p", api.ErrTag, 0},
		{"<p a b c d e f g h i j k l m n o q>", api.OK, 0}, {"<p a b c d e f g h i j k l m n o p q>", api.ErrLimit, 0}, {"<b><p a b c d e f g h i j k l m n o p q>", api.ErrLimit, 3},
		// ahead of all that Build would tell
		{"<table></>", api.ErrTag, 7}, {"</br><p><!--", api.ErrMark, 8}, {"<a><a>\x00", api.ErrNull, 6},
		// places of the text, not of the bytes
		{"a\r\n\r\n</>", api.ErrTag, 3}, {"\xFF</>", api.ErrTag, 3}, {"\r\r\n\x00", api.ErrNull, 2},
	} {
		if x.e != api.OK {
			checkError(t, x.s, x.e, x.at)
		} else {
			checkTree(t, x.s, "p")
		}
	}
}

func TestErrorsOfBuild(t *testing.T) { // P5.3: the token's number, not its place
	checkError(t, "a long text<b>more text</b><table>", api.ErrElement, 4)
	checkError(t, "<!-- a comment -->text</p>", api.ErrNest, 2)
	checkError(t, strings.Repeat("<b>", api.MaxDepth+1), api.ErrDepth, api.MaxDepth)
	checkTree(t, strings.Repeat("<b>", api.MaxDepth), strings.Repeat("b(", api.MaxDepth-1)+"b"+strings.Repeat(")", api.MaxDepth-1))
}

func TestWhatParseDecodes(t *testing.T) { // P5.3
	checkTree(t, "a\r\nb\rc\n", `"a\nb\nc\n"`)
	checkTree(t, "a\xFFb", `"a�b"`)
	checkTree(t, "<p>&lt;&#0;&amp;</p>", `p("<�&")`)
	checkTree(t, "&#xD800;&#13;", `"�\r"`)
	u, e, _ := tree.Parse([]byte("<P Dir=RTL class='a&amp;b' id=\"\xFF\r\n\" x>"))
	want := api.Tree{{Kind: api.Document, Up: -1, Kids: []int{1}}, {Kind: api.Element, Name: "p", Attrs: []api.Attr{{Name: "dir", Value: "RTL"}, {Name: "class", Value: "a&b"}, {Name: "id", Value: "\uFFFD\n"}, {Name: "x"}}}}
	if e != api.OK || !sameTree(u, want) || tree.Right(u) != api.OK {
		t.Errorf("%v, %d", u, e)
	}
}

// checkByLayers holds Parse against the layers that it leans on, and Right against what it answers.
func checkByLayers(t *testing.T, document []byte) bool {
	t.Helper()
	u, e, at := tree.Parse(document)
	v, f, place := byLayers(document)
	if e != f || at != place || !sameTree(u, v) {
		t.Fatalf("Parse(%q) is %v, %d at %d, not %v, %d at %d", document, u, e, at, v, f, place)
	}
	if e == api.OK && (tree.Right(u) != api.OK || len(broken(u)) > 0) {
		t.Fatalf("the tree of %q is not right: %v", document, broken(u))
	}
	return e == api.OK
}

func byLayers(document []byte) (api.Tree, api.Errno, int) {
	s, e := utf.Decode(document)
	if e != api.OK {
		return nil, e, 0
	}
	l, e, place := token.Tokens(s)
	if e != api.OK {
		return nil, e, place
	}
	return buildSecond(l)
}

func TestRandomDocuments(t *testing.T) { // P5.3, P5.6
	parts := []string{"<p>", "</p>", "<li>", "</li>", "<ul>", "</ul>", "<div>", "</div>", "<b>", "</b>", "<a>", "</a>", "<h1>", "</h1>", "<h2>", "<br>", "<hr/>", "<wbr />", "x", " ", "\n", "&lt;", "&#0;", "&#xDFFF;", "&", "\xFF", "\r", "\u05D0", "<!-- x -->", "<!doctype html>", "<p a=b>", "<b a='\xC3' c>", "<i class=x>", "</i>", "< ", "<p", "<table>"}
	random := rand.New(rand.NewSource(7))
	parsed := 0
	for i := range 200000 {
		var b []byte
		for range random.Intn(4 + i%12) {
			n := len(parts)
			if i%5 > 0 {
				n -= 2 // what is always wrong stands at the end
			}
			b = append(b, parts[random.Intn(n)]...)
		}
		if checkByLayers(t, b) {
			parsed++
		}
	}
	if parsed < 20000 {
		t.Errorf("only %d were parsed", parsed)
	}
}

func TestRandomBytes(t *testing.T) { // P5.3, P5.6
	random := rand.New(rand.NewSource(8))
	const signs = "<>/pbia!-?=\"' \r\n&;#0\xC3\xA9\xFF"
	for range 100000 {
		b := make([]byte, random.Intn(12))
		for i := range b {
			b[i] = signs[random.Intn(len(signs))]
		}
		checkByLayers(t, b)
	}
}
