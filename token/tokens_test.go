package token_test

import (
	"reflect"
	"strings"
	"testing"

	"selvedge/api"
	"selvedge/token"
)

// What is wanted of one, in few words.

func start(name string, attrs ...api.Attr) token.Token {
	return token.Token{Kind: token.Start, Name: name, Attrs: attrs}
}

func selfClosed(name string, attrs ...api.Attr) token.Token {
	return token.Token{Kind: token.Start, Name: name, Attrs: attrs, Self: true}
}

func attr(name, value string) api.Attr { return api.Attr{Name: name, Value: value} }

func end(name string) token.Token     { return token.Token{Kind: token.End, Name: name} }
func text(data string) token.Token    { return token.Token{Kind: token.Text, Data: data} }
func comment(data string) token.Token { return token.Token{Kind: token.Comment, Data: data} }
func doctype(data string) token.Token { return token.Token{Kind: token.Doctype, Data: data} }

// same: nil and empty lists mean the same.
func same(a, b token.Token) bool {
	if len(a.Attrs) == 0 && len(b.Attrs) == 0 {
		a.Attrs, b.Attrs = nil, nil
	}
	return reflect.DeepEqual(a, b)
}

func sameTokens(a, b []token.Token) bool {
	if len(a) != len(b) {
		return false
	}
	for i := range a {
		if !same(a[i], b[i]) {
			return false
		}
	}
	return true
}

func checkTokens(t *testing.T, s string, want ...token.Token) {
	t.Helper()
	l, e, place := token.Tokens(s)
	if e != api.OK || place != 0 || !sameTokens(l, want) {
		t.Errorf("Tokens(%q) is %v, %d, %d, not %v", s, l, e, place, want)
	}
}

func checkError(t *testing.T, s string, want api.Errno, at int) {
	t.Helper()
	l, e, place := token.Tokens(s)
	if len(l) != 0 || e != want || place != at {
		t.Errorf("Tokens(%q) is %v, %d, %d, not %d at %d", s, l, e, place, want, at)
	}
}

func TestChaptersExamples(t *testing.T) { // P4.1
	checkTokens(t, `<P Class="a b" id=x>a < b</p>`, start("p", attr("class", "a b"), attr("id", "x")), text("a < b"), end("p"))
	checkTokens(t, `<br/><!-- x -->a`, selfClosed("br"), comment(" x "), text("a"))
	checkError(t, `<br/><!-- x -->a<b`, api.ErrTag, 16)
	checkTokens(t, `<!DOCTYPE html > 1 < 2`, doctype("html"), text(" 1 < 2"))
	checkError(t, `</>`, api.ErrTag, 0)
	checkError(t, `<p a a>`, api.ErrAttr, 0)
	checkError(t, `<p a=>`, api.ErrAttr, 0)
	checkError(t, `<?x?>`, api.ErrMark, 0)
	checkError(t, `<!x>`, api.ErrMark, 0)
}

func TestKindsAreNumbers(t *testing.T) { // P4.1
	kinds := [...]uint8{token.Start, token.End, token.Text, token.Comment, token.Doctype}
	if kinds != [...]uint8{1, 2, 3, 4, 5} {
		t.Error(kinds)
	}
}

func TestEmptyText(t *testing.T) { // P4.1, P4.3
	checkTokens(t, "")
}

func TestEachKindNextToEach(t *testing.T) { // P4.1, P4.3
	all := []struct {
		s    string
		want token.Token
	}{
		{"<p>", start("p")}, {`<p a="x">`, start("p", attr("a", "x"))}, {"<br/>", selfClosed("br")}, {"</p>", end("p")}, {"</p >", end("p")},
		{"a &amp; b", text("a & b")}, {" < ", text(" < ")}, {"<!-- c -->", comment(" c ")}, {"<!---->", comment("")}, {"<!doctype html>", doctype("html")},
	}
	for _, x := range all {
		checkTokens(t, x.s, x.want)
		for _, y := range all {
			if x.want.Kind == token.Text && y.want.Kind == token.Text {
				checkTokens(t, x.s+y.s, text(x.want.Data+y.want.Data))
				continue
			}
			checkTokens(t, x.s+y.s, x.want, y.want)
			for _, z := range all {
				if y.want.Kind != token.Text || z.want.Kind != token.Text {
					checkTokens(t, x.s+y.s+z.s, x.want, y.want, z.want)
				}
			}
		}
	}
}

func TestTexts(t *testing.T) { // P4.1
	for _, x := range [][2]string{
		{"a", "a"}, {" ", " "}, {"\n\t\f\r", "\n\t\f\r"}, {">", ">"}, {"/>", "/>"}, {"-->", "-->"}, {"a=\"b'", "a=\"b'"},
		{"a &amp; b", "a & b"}, {"&lt;p&gt;", "<p>"}, {"&copy=1&notit", "\u00A9=1\u00ACit"}, {"&#0;", "\uFFFD"}, {"&amp;lt;", "&lt;"}, {"&unknown;", "&unknown;"},
		{"\u05D0\u0627\U0001F600", "\u05D0\u0627\U0001F600"}, {"\xFF\xC3", "\xFF\xC3"},
	} {
		checkTokens(t, x[0], text(x[1]))
		checkTokens(t, "<p>"+x[0]+"</p>", start("p"), text(x[1]), end("p"))
	}
	// A reference ends where the text does.
	checkTokens(t, "&lt<p>;", text("<"), start("p"), text(";"))
	checkTokens(t, "&#65</p>5;", text("A"), end("p"), text("5;"))
	checkTokens(t, "&no<!---->t;", text("&no"), comment(""), text("t;"))
}

// begins: does something else than a text begin, if this byte stands behind <?
func begins(b byte) bool {
	return strings.IndexByte("/!?abcdefghijklmnopqrstuvwxyzABCDEFGHIJKLMNOPQRSTUVWXYZ", b) >= 0
}

func TestWhatOnlyLooksLikeATag(t *testing.T) { // P4.1
	for _, s := range []string{"<", "<<", "< p>", "<1>", "<>", "<=", "<-", "<-->", "<_a>", "<\n/p>", "<\u00E9>", "a<", "<<<<", "<\xFF", "<'", "p>", "<[CDATA[x]]>", "<%x%>", "<\u212A>"} {
		checkTokens(t, s, text(s))
		checkTokens(t, "x"+s+" ", text("x"+s+" "))
		checkTokens(t, s+"<p>", text(s), start("p"))
	}
	for b := 1; b < 256; b++ {
		s := "x<" + string([]byte{byte(b)})
		switch {
		case !begins(byte(b)):
			checkTokens(t, s+" ", text(s+" "))
			checkTokens(t, s, text(s))
		case b == '!' || b == '?':
			checkError(t, s+">", api.ErrMark, 1)
		case b == '/':
			checkError(t, s+">", api.ErrTag, 1)
		default:
			checkTokens(t, s+">", text("x"), start(strings.ToLower(string([]byte{byte(b)}))))
		}
	}
	checkTokens(t, "<<p>", text("<"), start("p"))
	checkTokens(t, "1<2<p>3</p>", text("1<2"), start("p"), text("3"), end("p"))
	checkTokens(t, "<</p>", text("<"), end("p"))
	checkTokens(t, "<<!---->", text("<"), comment(""))
	checkTokens(t, "&lt;p&gt;<p>", text("<p>"), start("p"))
}

func TestLongestText(t *testing.T) { // P4.1
	for _, part := range []string{"a", "<", "< ", "&", "&lt", " ", "<p>", "</p>", "<!-->", "<!---->", "<p a>", "<a=", "<!--", "-->", "<!doctype", "\"", "<p a=\"", "\x00"} {
		s := strings.Repeat(part, api.MaxBytes/len(part)+1)
		if _, e, place := token.Tokens(s[:api.MaxBytes]); e == api.ErrLimit || place > api.MaxBytes {
			t.Errorf("%q over and over: %d at %d", part, e, place)
		}
		checkError(t, s[:api.MaxBytes]+"a", api.ErrLimit, 0)
	}
	checkTokens(t, strings.Repeat("a", api.MaxBytes), text(strings.Repeat("a", api.MaxBytes)))
	checkTokens(t, "<p>"+strings.Repeat("\u05D0", (api.MaxBytes-3)/2), start("p"), text(strings.Repeat("\u05D0", (api.MaxBytes-3)/2)))
	checkError(t, strings.Repeat("a", api.MaxBytes-1)+"\u05D0", api.ErrLimit, 0)
	checkError(t, strings.Repeat("</>", api.MaxBytes), api.ErrLimit, 0)
	checkError(t, strings.Repeat("\x00", api.MaxBytes+1), api.ErrLimit, 0)
	checkError(t, strings.Repeat("\x00", api.MaxBytes), api.ErrNull, 0)
}

func TestByteNull(t *testing.T) { // P4.1
	checkError(t, "\x00", api.ErrNull, 0)
	checkError(t, "ab\x00", api.ErrNull, 2)
	checkError(t, "a\x00b\x00", api.ErrNull, 1)
	const all = `<!doctype html><p a="b" c='d' e=f g>x &#0; < y</p ><!-- c --><br/>`
	for i := range len(all) + 1 {
		checkError(t, all[:i]+"\x00"+all[i:], api.ErrNull, i)
	}
	// It counts ahead of all that is wrong in front of it.
	checkError(t, "</><p a a><?\x00", api.ErrNull, 12)
	checkError(t, strings.Repeat("a", api.MaxBytes-1)+"\x00", api.ErrNull, api.MaxBytes-1)
}

func TestTextWithoutMarksIsOneToken(t *testing.T) { // P4.3
	for b := 1; b < 256; b++ {
		if b == '<' || b == '&' {
			continue
		}
		one := string([]byte{byte(b)})
		checkTokens(t, one, text(one))
		checkTokens(t, "!-- "+one+" a='b'/>", text("!-- "+one+" a='b'/>"))
	}
}
