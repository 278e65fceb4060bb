package token_test

import (
	"strconv"
	"strings"
	"testing"

	"selvedge/api"
	"selvedge/token"
)

const (
	smallLetters = "abcdefghijklmnopqrstuvwxyz"
	digits       = "0123456789"
)

// named: letters and digits, and what is told.
func named(b byte, others string) bool {
	return strings.IndexByte(smallLetters+strings.ToUpper(smallLetters)+digits+others, b) >= 0
}

// wide tells blanks of each kind, one and several.
var wide = []string{" ", "\t", "\n", "\f", "  ", "\n\t \f"}

func TestNamesOfTags(t *testing.T) { // P4.1, P4.3
	for _, x := range [][2]string{{"p", "p"}, {"P", "p"}, {"h1", "h1"}, {"H1", "h1"}, {"a0z9", "a0z9"}, {"BlockQuote", "blockquote"}, {strings.ToUpper(smallLetters) + digits, smallLetters + digits}, {"x" + strings.Repeat("y", 5000), "x" + strings.Repeat("y", 5000)}} {
		checkTokens(t, "<"+x[0]+">", start(x[1]))
		checkTokens(t, "</"+x[0]+">", end(x[1]))
		checkTokens(t, "<"+x[0]+"/>", selfClosed(x[1]))
		checkTokens(t, "<"+x[0]+" A>", start(x[1], attr("a", "")))
	}
	for b := 1; b < 256; b++ {
		for _, ahead := range []string{"<", "</"} {
			s := "xy" + ahead + "p" + string([]byte{byte(b)}) + "q"
			switch {
			case strings.IndexByte(" \t\n\f/>", byte(b)) >= 0: // the name ends there
			case !named(byte(b), ""):
				checkError(t, s+">", api.ErrTag, 2)
				checkError(t, s+" a a>", api.ErrTag, 2)
			case ahead == "<":
				checkTokens(t, s+">", text("xy"), start("p"+strings.ToLower(string([]byte{byte(b)}))+"q"))
			default:
				checkTokens(t, s+">", text("xy"), end("p"+strings.ToLower(string([]byte{byte(b)}))+"q"))
			}
		}
	}
	checkError(t, "<p\u00E9>", api.ErrTag, 0)
	checkError(t, "<\u006B\u212A>", api.ErrTag, 0)
	checkError(t, "<p&amp;>", api.ErrTag, 0)
	checkError(t, "<p<q>", api.ErrTag, 0)
	checkError(t, "<p\r>", api.ErrTag, 0)
}

func TestNamesOfAttributes(t *testing.T) { // P4.1, P4.3
	for _, x := range [][2]string{{"a", "a"}, {"A", "a"}, {"data-X_1", "data-x_1"}, {"-", "-"}, {"_", "_"}, {"1", "1"}, {"-_-", "-_-"}, {strings.ToUpper(smallLetters) + digits, smallLetters + digits}, {strings.Repeat("Q", 5000), strings.Repeat("q", 5000)}} {
		checkTokens(t, "<p "+x[0]+">", start("p", attr(x[1], "")))
		checkTokens(t, "<p "+x[0]+"/>", selfClosed("p", attr(x[1], "")))
		checkTokens(t, "<p "+x[0]+"=Y>", start("p", attr(x[1], "Y")))
		checkTokens(t, "<p b-b "+x[0]+"='Y'>", start("p", attr("b-b", ""), attr(x[1], "Y")))
	}
	for b := 1; b < 256; b++ {
		one := string([]byte{byte(b)})
		if strings.IndexByte(" \t\n\f/>=", byte(b)) >= 0 {
			continue
		}
		for _, name := range []string{one, "n" + one, one + "n", "n" + one + "n"} {
			if named(byte(b), "-_") {
				checkTokens(t, "x<p "+name+">", text("x"), start("p", attr(strings.ToLower(name), "")))
				checkTokens(t, "x<p "+name+"=v>", text("x"), start("p", attr(strings.ToLower(name), "v")))
				continue
			}
			checkError(t, "x<p "+name+">", api.ErrAttr, 1)
			checkError(t, "x<p "+name+"=v>", api.ErrAttr, 1)
			checkError(t, "x<p "+name, api.ErrAttr, 1)
		}
	}
	for _, s := range []string{"<p =>", "<p =a>", "<p ==>", "<p a=b =c>", "<p a = b = c>", `<p a="b"=c>`, "<p =", "<p \u212A>", "<p a\r>", "<p \r>", "<p a:b>", "<p a.b=c>", "<p a&amp;>", `<p "a">`, "<p a<b>", "</p =>"} {
		checkError(t, s, api.ErrAttr, 0)
	}
}

func TestAttributesInOrder(t *testing.T) { // P4.1
	checkTokens(t, "<p z y=1 x='2' w=\"3\">", start("p", attr("z", ""), attr("y", "1"), attr("x", "2"), attr("w", "3")))
	checkTokens(t, "<p a b = 'c' d>", start("p", attr("a", ""), attr("b", "c"), attr("d", "")))
	checkTokens(t, "<a a=a><b b=b>", start("a", attr("a", "a")), start("b", attr("b", "b")))
	// A quote that closes may have the next name right behind it.
	checkTokens(t, `<p a="b"c='d'e=f>`, start("p", attr("a", "b"), attr("c", "d"), attr("e", "f")))
	checkTokens(t, `<p a='b'/>`, selfClosed("p", attr("a", "b")))
}

func TestBlanksInEachPlace(t *testing.T) { // P4.1
	for _, w := range wide {
		checkTokens(t, "<p"+w+">", start("p"))
		checkTokens(t, "<p"+w+"/>", selfClosed("p"))
		checkTokens(t, "</p"+w+">", end("p"))
		checkTokens(t, "<p"+w+"a"+w+">", start("p", attr("a", "")))
		checkTokens(t, "<p"+w+"a"+w+"/>", selfClosed("p", attr("a", "")))
		checkTokens(t, "<p"+w+"a"+w+"b"+w+">", start("p", attr("a", ""), attr("b", "")))
		for _, value := range []string{"v", "'v'", `"v"`} {
			checkTokens(t, "<p"+w+"a"+w+"="+w+value+w+">", start("p", attr("a", "v")))
			checkTokens(t, "<p"+w+"a"+w+"="+w+value+w+"/>", selfClosed("p", attr("a", "v")))
			checkTokens(t, "<p"+w+"a="+value+w+"b"+w+"="+value+w+"c>", start("p", attr("a", "v"), attr("b", "v"), attr("c", "")))
			checkTokens(t, "<p"+w+"c"+w+"a"+w+"="+value+">", start("p", attr("c", ""), attr("a", "v")))
		}
		checkTokens(t, "<p a='"+w+"v"+w+"'>", start("p", attr("a", w+"v"+w)))
		checkTokens(t, "<p a=\""+w+"\">", start("p", attr("a", w)))
		checkTokens(t, "<"+w+"p>", text("<"+w+"p>"))
		checkError(t, "</"+w+"p>", api.ErrTag, 0)
		checkError(t, "<p /"+w+">", api.ErrTag, 0)
		checkError(t, "<p a"+w+"="+w+">", api.ErrAttr, 0)
	}
	for _, s := range []string{"<p\r>", "</p\r>", "<p\v>", "<p\u00A0>"} {
		checkError(t, s, api.ErrTag, 0)
	}
	for _, s := range []string{"<p \r>", "<p a\r=b>", "<p \va>", "<p \u00A0a>", "<p a='b'\r>"} {
		checkError(t, s, api.ErrAttr, 0)
	}
}

func TestQuotedValues(t *testing.T) { // P4.1
	for b := 1; b < 256; b++ {
		one := string([]byte{byte(b)})
		if b != '"' {
			checkTokens(t, `<p a="`+one+`">x`, start("p", attr("a", one)), text("x"))
			checkTokens(t, `<p a="v`+one+`v">x`, start("p", attr("a", "v"+one+"v")), text("x"))
		}
		if b != '\'' {
			checkTokens(t, "<p a='"+one+"'>x", start("p", attr("a", one)), text("x"))
			checkTokens(t, "<p a='v"+one+"v'>x", start("p", attr("a", "v"+one+"v")), text("x"))
		}
	}
	checkTokens(t, `<p a="" b=''>`, start("p", attr("a", ""), attr("b", "")))
	checkTokens(t, `<p a=">"b='/>'>`, start("p", attr("a", ">"), attr("b", "/>")))
	checkTokens(t, `<p a="'" b='"'>`, start("p", attr("a", "'"), attr("b", `"`)))
	checkTokens(t, `<p a="</p><!-- x -->">`, start("p", attr("a", "</p><!-- x -->")))
	checkTokens(t, `<p a="ABC">`, start("p", attr("a", "ABC")))
	for _, s := range []string{`<p a=">`, `<p a='>`, `<p a="b'>`, `<p a='b">`, `<p a="`, `<p a='`, `<p a= "b`, `<p a='b' c="d>`} {
		checkError(t, s, api.ErrAttr, 0)
		checkError(t, "<b>x"+s, api.ErrAttr, 4)
	}
}

func TestValuesWithoutQuotes(t *testing.T) { // P4.1
	for b := 1; b < 256; b++ {
		one := string([]byte{byte(b)})
		s, inner := "x<p a="+one+">", "x<p a=v"+one+"v>"
		switch {
		case strings.IndexByte(" \t\n\f", byte(b)) >= 0:
			checkError(t, s, api.ErrAttr, 1)
			checkTokens(t, inner, text("x"), start("p", attr("a", "v"), attr("v", "")))
		case b == '>':
			checkError(t, s, api.ErrAttr, 1)
			checkTokens(t, inner, text("x"), start("p", attr("a", "v")), text("v>"))
		case strings.IndexByte("\"'<=\x60", byte(b)) >= 0:
			checkError(t, s, api.ErrAttr, 1)
			checkError(t, inner, api.ErrAttr, 1)
			checkError(t, "x<p a=v"+one+">", api.ErrAttr, 1)
		default:
			checkTokens(t, s, text("x"), start("p", attr("a", one)))
			checkTokens(t, inner, text("x"), start("p", attr("a", "v"+one+"v")))
		}
	}
	// A slash is a byte of such a value.
	checkTokens(t, "<a href=/x/>", start("a", attr("href", "/x/")))
	checkTokens(t, "<a href=/>", start("a", attr("href", "/")))
	checkTokens(t, "<a href= / >", start("a", attr("href", "/")))
	checkTokens(t, "<a href=x />", selfClosed("a", attr("href", "x")))
	for _, s := range []string{"<p a=>", "<p a= >", "<p a = >", "<p a=", "<p a= ", "<p a==b>", "<p a=b=c>", "<p a=b'c'>", "<p a=b\">"} {
		checkError(t, s, api.ErrAttr, 0)
	}
}

func TestReferencesInValues(t *testing.T) { // P4.1
	for _, x := range [][2]string{
		{"&amp;", "&"}, {"&lt;&gt;", "<>"}, {"&quot;&apos;", "\"'"}, {"&#65;", "A"}, {"&#x5D0", "\u05D0"}, {"&#32;", " "}, {"&#61;&#96;", "=\x60"}, {"&nbsp;", "\u00A0"},
		{"&copy", "\u00A9"}, {"&copyx", "&copyx"}, {"&copy;x", "\u00A9x"}, {"&copy.", "\u00A9."}, {"&notin;", "\u2209"}, {"&notit", "&notit"}, {"&unknown;", "&unknown;"}, {"&", "&"}, {"&#0;", "\uFFFD"}, {"&amp;lt;", "&lt;"},
	} {
		checkTokens(t, "<p a="+x[0]+">;", start("p", attr("a", x[1])), text(";"))
		checkTokens(t, "<p a="+x[0]+" b>", start("p", attr("a", x[1]), attr("b", "")))
		checkTokens(t, "<p a='"+x[0]+"'>", start("p", attr("a", x[1])))
		checkTokens(t, "<p a=\""+x[0]+"\"b>", start("p", attr("a", x[1]), attr("b", "")))
	}
	checkTokens(t, "<p a='?b=1&copy=2'>&copy=2", start("p", attr("a", "?b=1&copy=2")), text("\u00A9=2"))
	checkTokens(t, "<p a='&lt'b>", start("p", attr("a", "<"), attr("b", "")))
	// In names there is none.
	checkError(t, "<p &#97;=b>", api.ErrAttr, 0)
}

func TestSelfClosed(t *testing.T) { // P4.1
	checkTokens(t, "<br/>", selfClosed("br"))
	checkTokens(t, "<br />", selfClosed("br"))
	checkTokens(t, "<p/>x", selfClosed("p"), text("x"))
	checkTokens(t, "<p a/>", selfClosed("p", attr("a", "")))
	for _, s := range []string{"<p/ >", "<p / >", "<p//>", "<p / />", "<p/a>", "<p /a>", "<p a/b>", "<p a /b>", "<p a /=b>", "<p a='b'/c>", "<p/", "<p /", "<p a/", "<p a='b'/", "<p/a a>"} {
		checkError(t, s, api.ErrTag, 0)
	}
}

func TestEndTags(t *testing.T) { // P4.1
	checkTokens(t, "</p>", end("p"))
	checkTokens(t, "</P\n>", end("p"))
	for b := 1; b < 256; b++ {
		if !named(byte(b), "") || strings.IndexByte(digits, byte(b)) >= 0 {
			checkError(t, "x</"+string([]byte{byte(b)})+">", api.ErrTag, 1)
			checkError(t, "x</"+string([]byte{byte(b)}), api.ErrTag, 1)
		}
	}
	for _, s := range []string{"</", "</>", "</ p>", "</1>", "<//p>", "</</p>", "</!-- -->", "</p a>", "</p a=b>", "</p a='b'>", "</p/>", "</p />", "</p a/>", "</p / >", "</p-q>", "</p", "</p ", "</p a", "</\u212A>"} {
		checkError(t, s, api.ErrTag, 0)
		checkError(t, "<p>"+s, api.ErrTag, 3)
	}
	// What is wrong with its attributes comes ahead of its having them.
	checkError(t, "</p a a>", api.ErrAttr, 0)
	checkError(t, "</p a=>", api.ErrAttr, 0)
	checkError(t, "</p a b$>", api.ErrAttr, 0)
	checkError(t, "</p"+attributes(17, "")+">", api.ErrLimit, 0)
	checkError(t, "</p"+attributes(16, "")+">", api.ErrTag, 0)
}

// attributes writes so many of names that differ.
func attributes(n int, value string) string {
	s := ""
	for i := range n {
		s += " a" + strconv.Itoa(i) + value
	}
	return s
}

func TestManyAttributes(t *testing.T) { // P4.1
	for _, value := range []string{"", "=v", "='v'", `=""`} {
		l, e, _ := token.Tokens("x<p" + attributes(api.MaxAttrs, value) + ">")
		if e != api.OK || len(l) != 2 || len(l[1].Attrs) != 16 || l[1].Attrs[0].Name != "a0" || l[1].Attrs[15].Name != "a15" {
			t.Errorf("16 attributes: %v, %d", l, e)
		}
		checkError(t, "x<p"+attributes(api.MaxAttrs+1, value)+">", api.ErrLimit, 1)
		checkError(t, "x<p"+attributes(40, value)+"/>", api.ErrLimit, 1)
	}
	// Each tag has its own ones.
	two := "<p" + attributes(16, "") + ">"
	if l, e, _ := token.Tokens(two + two); e != api.OK || len(l) != 2 || len(l[1].Attrs) != 16 {
		t.Errorf("two tags: %v, %d", l, e)
	}
}

func TestTwoOfOneName(t *testing.T) { // P4.1, P4.3
	for _, s := range []string{"<p a a>", "<p a A>", "<p Ab-c aB-C>", "<p a=1 a=1>", "<p a='1' b a=\"2\">", "<p a a", "<p a b a/>", "<p a=1 a=2"} {
		checkError(t, s, api.ErrAttr, 0)
	}
	checkTokens(t, "<p a aa a- a_><q a>", start("p", attr("a", ""), attr("aa", ""), attr("a-", ""), attr("a_", "")), start("q", attr("a", "")))
}
