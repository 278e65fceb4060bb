package csstok_test

import (
	"strings"
	"testing"

	"selvedge/csstok"
)

func TestKinds(t *testing.T) {
	kinds := []uint8{csstok.White, csstok.Ident, csstok.Func, csstok.At, csstok.Hash, csstok.Text, csstok.Bad, csstok.Number, csstok.Percent, csstok.Measure, csstok.Sign, csstok.Delim, csstok.Open, csstok.Close}
	for i, kind := range kinds {
		if int(kind) != i+1 {
			t.Errorf("kind %d is %d", i+1, kind)
		}
	}
}

func TestTheChaptersExamples(t *testing.T) { // P7.1
	checkReadings(t, []reading{
		{"a-b(1.5e3px, \"x\\22\" )", row(call("a-b"), measure("1.5e3", "px"), sign(","), white, text("x\""), white, sign(")"))},
		{"#1a #\\31 a @media --> -1% +.5", row(hash("1a"), white, id("1a"), white, at("media"), white, closing, white, percent("-1"), white, number("+.5"))},
		{"\"a\n b/* */c", row(bad("a"), white, ident("b"), ident("c"))},
		{"1e 1e3 1e-x \\\n", row(measure("1", "e"), white, number("1e3"), white, measure("1", "e-x"), white, delim("\\"), white)},
	})
}

func TestNoTokens(t *testing.T) { // P7.1
	for _, s := range []string{"", "/**/", "/* a */", "/*", "/*a", "/**//*", "/*/", "/* *//* */"} {
		if l := csstok.Tokens(s); len(l) != 0 {
			t.Errorf("Tokens(%q) is %s", s, show(l...))
		}
	}
	checkPrint(t, "")
	checkPrint(t, "", row()...)
}

func TestWhite(t *testing.T) { // P7.1
	checkReadings(t, []reading{
		{" ", row(white)}, {"\t", row(white)}, {"\n", row(white)}, {"\r", row(white)}, {"\f", row(white)}, {"\r\n", row(white)},
		{" \t\n\r\f\r\n  ", row(white)}, {" a ", row(white, ident("a"), white)}, {"a \n b", row(ident("a"), white, ident("b"))},
		{"\v", row(delim("\v"))}, {"\b", row(delim("\b"))}, {"\x1F", row(delim("\x1F"))}, {"\x0E", row(delim("\x0E"))},
		{"\u0085", row(ident("\u0085"))}, {"\u00A0", row(ident("\u00A0"))}, {"\u2028", row(ident("\u2028"))}, {"\u3000", row(ident("\u3000"))}, {"\uFEFF", row(ident("\uFEFF"))},
	})
}

func TestQuotes(t *testing.T) { // P7.1
	checkReadings(t, []reading{
		// which end with the sign
		{`""`, row(text(""))}, {`''`, row(text(""))}, {`"a"`, row(text("a"))}, {`'a'`, row(text("a"))}, {`"a'b"`, row(text("a'b"))}, {`'a"b'`, row(text(`a"b`))},
		{`"a"b"c"`, row(text("a"), ident("b"), text("c"))}, {`""''`, row(text(""), text(""))}, {`"a" "b"`, row(text("a"), white, text("b"))},
		{`"a\"b"`, row(text(`a"b`))}, {`'a\'b'`, row(text("a'b"))}, {`"\\"`, row(text(`\`))}, {`"\\\"`, row(text(`\"`))}, {`"a\'b"`, row(text("a'b"))},
		{`"/* a */"`, row(text("/* a */"))}, {`"/*"a`, row(text("/*"), ident("a"))}, {`"<!-- #x @y 1px {"`, row(text("<!-- #x @y 1px {"))},
		// at the end
		{`"`, row(text(""))}, {`'`, row(text(""))}, {`"a`, row(text("a"))}, {`'a b`, row(text("a b"))}, {`"a'`, row(text("a'"))}, {`"a\"`, row(text(`a"`))},
		{`"\`, row(text(""))}, {`"a\`, row(text("a"))}, {`'\`, row(text(""))}, {`"a\\`, row(text(`a\`))}, {`"a\\\`, row(text(`a\`))},
		// at an A
		{"\"\n", row(bad(""), white)}, {"'\n", row(bad(""), white)}, {"\"a\n", row(bad("a"), white)}, {"'a\r\n\"", row(bad("a"), white, text(""))}, {"\"a\fb\"", row(bad("a"), white, ident("b"), text(""))},
		{"\"a\rb\"c", row(bad("a"), white, ident("b"), text("c"))}, {"\"a'\n'", row(bad("a'"), white, text(""))}, {"\"\\\"\n", row(bad("\""), white)}, {"\"a\n\n \"", row(bad("a"), white, text(""))},
		// a line that goes on
		{"\"a\\\nb\"", row(text("ab"))}, {"\"a\\\r\nb\"", row(text("ab"))}, {"'a\\\fb'", row(text("ab"))}, {"'a\\\rb'", row(text("ab"))}, {"\"\\\n\"", row(text(""))}, {"\"\\\n", row(text(""))},
		{"\"a\\\n\\\nb\"", row(text("ab"))}, {"\"a\\\n\nb", row(bad("a"), white, ident("b"))}, {"\"a\\\\\nb", row(bad("a\\"), white, ident("b"))}, {"\"\\\r\r\n", row(bad(""), white)}, {"\"\\\n\\", row(text(""))},
		// other characters
		{"\"\t\v \u05D0\U0001F600\"", row(text("\t\v \u05D0\U0001F600"))}, {"\"\x00\"", row(text("\uFFFD"))}, {"\"\\\x00\"", row(text("\uFFFD"))},
	})
}

func TestHashes(t *testing.T) { // P7.1
	checkReadings(t, []reading{
		// names
		{"#a", row(id("a"))}, {"#Ab-1_c", row(id("Ab-1_c"))}, {"#_", row(id("_"))}, {"#\u05D0", row(id("\u05D0"))}, {"#\u0080", row(id("\u0080"))}, {"#-a", row(id("-a"))}, {"#--", row(id("--"))}, {"#--1", row(id("--1"))}, {"#-\u00E9", row(id("-\u00E9"))},
		{"#\\31", row(id("1"))}, {"#-\\31", row(id("-1"))}, {"#\\-", row(id("-"))}, {"#\\.a", row(id(".a"))}, {"#\\", row(id("\uFFFD"))}, {"#-\\", row(id("-\uFFFD"))}, {"#a\\", row(id("a\uFFFD"))}, {"#\x00", row(id("\uFFFD"))},
		// no names
		{"#1", row(hash("1"))}, {"#9a", row(hash("9a"))}, {"#0-_z", row(hash("0-_z"))}, {"#-", row(hash("-"))}, {"#-1", row(hash("-1"))}, {"#1\\.", row(hash("1."))}, {"#1\\31 a", row(hash("11a"))}, {"#1\\", row(hash("1\uFFFD"))},
		{"#-\\\n", row(hash("-"), delim("\\"), white)}, {"#1\\\n", row(hash("1"), delim("\\"), white)}, {"#a\\\n", row(id("a"), delim("\\"), white)},
		// none
		{"#", row(delim("#"))}, {"# a", row(delim("#"), white, ident("a"))}, {"##a", row(delim("#"), id("a"))}, {"#.a", row(delim("#"), delim("."), ident("a"))}, {"#/**/a", row(delim("#"), ident("a"))}, {"#+1", row(delim("#"), number("+1"))},
		{"#\\\na", row(delim("#"), delim("\\"), white, ident("a"))}, {"#\"a\"", row(delim("#"), text("a"))}, {"#(", row(delim("#"), sign("("))}, {"#@a", row(delim("#"), at("a"))}, {"#\v", row(delim("#"), delim("\v"))},
		// what stands behind
		{"#a(", row(id("a"), sign("("))}, {"#a#b", row(id("a"), id("b"))}, {"#a/**/b", row(id("a"), ident("b"))}, {"#fff;", row(id("fff"), sign(";"))}, {"#a%", row(id("a"), delim("%"))}, {"#a-->", row(id("a--"), delim(">"))}, {"#a.b", row(id("a"), delim("."), ident("b"))},
	})
}

func TestSigns(t *testing.T) { // P7.1
	checkTokens(t, ",:;()[]{}", sign(","), sign(":"), sign(";"), sign("("), sign(")"), sign("["), sign("]"), sign("{"), sign("}"))
	for _, s := range strings.Split(",:;()[]{}", "") {
		checkTokens(t, s, sign(s))
		checkTokens(t, s+s+" "+s+"a", sign(s), sign(s), white, sign(s), ident("a"))
	}
}

func TestOpenAndClose(t *testing.T) { // P7.1
	checkReadings(t, []reading{
		{"<!--", row(open)}, {"-->", row(closing)}, {"<!---->", row(open, closing)}, {"<!--a-->", row(open, ident("a--"), delim(">"))}, {"<!--a -->", row(open, ident("a"), white, closing)}, {"-->-->", row(closing, closing)}, {"--><!--", row(closing, open)},
		{"<!-", row(delim("<"), delim("!"), delim("-"))}, {"<!", row(delim("<"), delim("!"))}, {"<", row(delim("<"))}, {"<-", row(delim("<"), delim("-"))}, {"<-->", row(delim("<"), closing)}, {"<!a--", row(delim("<"), delim("!"), ident("a--"))}, {"<!/**/--", row(delim("<"), delim("!"), ident("--"))},
		{"<! --", row(delim("<"), delim("!"), white, ident("--"))}, {"<<!--", row(delim("<"), open)}, {"<!---", row(open, delim("-"))}, {"<!----", row(open, ident("--"))}, {"<!--->", row(open, delim("-"), delim(">"))}, {"<!--1", row(open, number("1"))}, {"<!---1", row(open, number("-1"))},
		{"->", row(delim("-"), delim(">"))}, {"--", row(ident("--"))}, {"---", row(ident("---"))}, {"--->", row(ident("---"), delim(">"))}, {"-- >", row(ident("--"), white, delim(">"))}, {"--/**/>", row(ident("--"), delim(">"))}, {"-/**/->", row(delim("-"), delim("-"), delim(">"))},
		{"--\\>", row(ident("-->"))}, {"-->a", row(closing, ident("a"))}, {"-->1", row(closing, number("1"))}, {"--a>", row(ident("--a"), delim(">"))},
	})
}

func TestNamesBegin(t *testing.T) { // P7.1
	checkReadings(t, []reading{
		{"a", row(ident("a"))}, {"z", row(ident("z"))}, {"A", row(ident("A"))}, {"Z", row(ident("Z"))}, {"_", row(ident("_"))}, {"\u0080", row(ident("\u0080"))}, {"\U0010FFFF", row(ident("\U0010FFFF"))}, {"\\x", row(ident("x"))}, {"\\", row(ident("\uFFFD"))},
		{"-a", row(ident("-a"))}, {"-_", row(ident("-_"))}, {"-\u0080", row(ident("-\u0080"))}, {"--", row(ident("--"))}, {"-\\x", row(ident("-x"))}, {"-\\", row(ident("-\uFFFD"))}, {"--1", row(ident("--1"))}, {"-a-1-", row(ident("-a-1-"))},
		{"a1", row(ident("a1"))}, {"a-", row(ident("a-"))}, {"a_\u05D0-9z", row(ident("a_\u05D0-9z"))}, {"Ab", row(ident("Ab"))}, {"a\\.b", row(ident("a.b"))}, {"\\-", row(ident("-"))}, {"\\(", row(ident("("))}, {"a\\", row(ident("a\uFFFD"))},
		{"-", row(delim("-"))}, {"- a", row(delim("-"), white, ident("a"))}, {"-.a", row(delim("-"), delim("."), ident("a"))}, {"-/**/a", row(delim("-"), ident("a"))}, {"-#a", row(delim("-"), id("a"))}, {"-(", row(delim("-"), sign("("))},
		{"\\\n", row(delim("\\"), white)}, {"-\\\n", row(delim("-"), delim("\\"), white)}, {"a\\\nb", row(ident("a"), delim("\\"), white, ident("b"))}, {"\\\r\na", row(delim("\\"), white, ident("a"))}, {"\\\f", row(delim("\\"), white)}, {"\\\r", row(delim("\\"), white)},
		{"\x7F", row(delim("\x7F"))}, {"@", row(delim("@"))}, {"[", row(sign("["))}, {"\x60", row(delim("\x60"))}, {"^", row(delim("^"))}, {"a.b", row(ident("a"), delim("."), ident("b"))}, {"a+b", row(ident("a"), delim("+"), ident("b"))}, {"a$", row(ident("a"), delim("$"))},
		{"a:b;c", row(ident("a"), sign(":"), ident("b"), sign(";"), ident("c"))}, {"a\"b\"", row(ident("a"), text("b"))}, {"a@b", row(ident("a"), at("b"))}, {"a%", row(ident("a"), delim("%"))}, {"a<!--", row(ident("a"), open)}, {"a-->", row(ident("a--"), delim(">"))},
		{"+a", row(delim("+"), ident("a"))}, {"+-a", row(delim("+"), ident("-a"))}, {"-+a", row(delim("-"), delim("+"), ident("a"))}, {"\u00D7\u2212", row(ident("\u00D7\u2212"))}, {"\uFFFD", row(ident("\uFFFD"))},
	})
}

func TestFunctions(t *testing.T) { // P7.1
	checkReadings(t, []reading{
		{"a(", row(call("a"))}, {"a()", row(call("a"), sign(")"))}, {"a (", row(ident("a"), white, sign("("))}, {"a/**/(", row(ident("a"), sign("("))}, {"-a(", row(call("-a"))}, {"--(", row(call("--"))}, {"\\31(", row(call("1"))}, {"\\31 (", row(call("1"))}, {"\\31  (", row(ident("1"), white, sign("("))},
		{"a((", row(call("a"), sign("("))}, {"a(b(", row(call("a"), call("b"))}, {"-(", row(delim("-"), sign("("))}, {"a\\(", row(ident("a("))}, {"\u05D0(", row(call("\u05D0"))}, {"a\\\n(", row(ident("a"), delim("\\"), white, sign("("))}, {"a[", row(ident("a"), sign("["))},
		// url( is like any other one
		{"url(", row(call("url"))}, {"url(a.b)", row(call("url"), ident("a"), delim("."), ident("b"), sign(")"))}, {"url( \"x\" )", row(call("url"), white, text("x"), white, sign(")"))}, {"URL(//x)", row(call("URL"), delim("/"), delim("/"), ident("x"), sign(")"))}, {"url(a\"b", row(call("url"), ident("a"), text("b"))}, {"url(/**/)", row(call("url"), sign(")"))},
		{"u+1", row(ident("u"), number("+1"))}, {"U+1F-2", row(ident("U"), measure("+1", "F-2"))}, {"u+?", row(ident("u"), delim("+"), delim("?"))},
	})
}

func TestAtNames(t *testing.T) { // P7.1
	checkReadings(t, []reading{
		{"@a", row(at("a"))}, {"@media", row(at("media"))}, {"@Media", row(at("Media"))}, {"@-a", row(at("-a"))}, {"@--", row(at("--"))}, {"@-\\31", row(at("-1"))}, {"@\\31", row(at("1"))}, {"@\u05D0", row(at("\u05D0"))}, {"@_", row(at("_"))}, {"@\\", row(at("\uFFFD"))}, {"@-\\", row(at("-\uFFFD"))},
		{"@", row(delim("@"))}, {"@1", row(delim("@"), number("1"))}, {"@-", row(delim("@"), delim("-"))}, {"@-1", row(delim("@"), number("-1"))}, {"@ a", row(delim("@"), white, ident("a"))}, {"@/**/a", row(delim("@"), ident("a"))}, {"@@a", row(delim("@"), at("a"))}, {"@#a", row(delim("@"), id("a"))},
		{"@\\\n", row(delim("@"), delim("\\"), white)}, {"@-\\\n", row(delim("@"), delim("-"), delim("\\"), white)}, {"@-->", row(at("--"), delim(">"))}, {"@(", row(delim("@"), sign("("))}, {"@.", row(delim("@"), delim("."))},
		{"@a(", row(at("a"), sign("("))}, {"@a{", row(at("a"), sign("{"))}, {"@a;", row(at("a"), sign(";"))}, {"@a\"b\"", row(at("a"), text("b"))}, {"@a@b", row(at("a"), at("b"))}, {"@a1", row(at("a1"))}, {"@a.1", row(at("a"), number(".1"))}, {"@a-->", row(at("a--"), delim(">"))},
	})
}

func TestNumbers(t *testing.T) { // P7.1
	for _, s := range []string{"0", "1", "9", "007", "1234567890123456789012345678901234567890", "1.5", "0.0", ".5", ".50", "1e3", "1E3", "1e+3", "1e-3", "1E-03", "1.5e3", ".5e-0", "9e99999"} {
		for _, ahead := range []string{"", "+", "-"} {
			s := ahead + s
			checkTokens(t, s, number(s))
			checkTokens(t, s+" ", number(s), white)
			checkTokens(t, s+"%", percent(s))
			checkTokens(t, s+"px", measure(s, "px"))
			checkTokens(t, s+"/**/px", number(s), ident("px"))
			checkTokens(t, s+"/**/%", number(s), delim("%"))
			checkTokens(t, s+"%%", percent(s), delim("%"))
			checkTokens(t, s+"+1", number(s), number("+1"))
			checkTokens(t, s+"-1", number(s), number("-1"))
			checkTokens(t, s+"-->", measure(s, "--"), delim(">"))
			checkTokens(t, s+"-a", measure(s, "-a"))
			checkTokens(t, s+"-", number(s), delim("-"))
			checkTokens(t, s+"+", number(s), delim("+"))
			checkTokens(t, s+"(", number(s), sign("("))
			checkTokens(t, s+"#a", number(s), id("a"))
			checkTokens(t, s+"@a", number(s), at("a"))
			checkTokens(t, s+"\"a\"", number(s), text("a"))
			checkTokens(t, s+"<!--", number(s), open)
			checkTokens(t, s+".", number(s), delim("."))
			checkTokens(t, "a "+s+";", ident("a"), white, number(s), sign(";"))
		}
	}
}

func TestNumbersBegin(t *testing.T) { // P7.1
	checkReadings(t, []reading{
		{"+", row(delim("+"))}, {"-", row(delim("-"))}, {".", row(delim("."))}, {"+.", row(delim("+"), delim("."))}, {"-.", row(delim("-"), delim("."))}, {"+a", row(delim("+"), ident("a"))}, {"+ 1", row(delim("+"), white, number("1"))}, {"- 1", row(delim("-"), white, number("1"))}, {". 1", row(delim("."), white, number("1"))},
		{"+/**/1", row(delim("+"), number("1"))}, {"./**/1", row(delim("."), number("1"))}, {"+./**/1", row(delim("+"), delim("."), number("1"))}, {"++1", row(delim("+"), number("+1"))}, {"--1", row(ident("--1"))}, {"+-1", row(delim("+"), number("-1"))}, {"-+1", row(delim("-"), number("+1"))}, {"..1", row(delim("."), number(".1"))}, {"+..1", row(delim("+"), delim("."), number(".1"))},
		{".a", row(delim("."), ident("a"))}, {".-1", row(delim("."), number("-1"))}, {".+1", row(delim("."), number("+1"))}, {"+-", row(delim("+"), delim("-"))}, {"-.a", row(delim("-"), delim("."), ident("a"))}, {"+e1", row(delim("+"), ident("e1"))}, {"e1", row(ident("e1"))}, {".e1", row(delim("."), ident("e1"))}, {"%", row(delim("%"))}, {"+%", row(delim("+"), delim("%"))},
		{"\u0661", row(ident("\u0661"))}, {"1\u0661", row(measure("1", "\u0661"))}, {"\uFF11", row(ident("\uFF11"))}, {"\u22121", row(ident("\u22121"))}, {"/1", row(delim("/"), number("1"))}, {":1", row(sign(":"), number("1"))}, {"1,5", row(number("1"), sign(","), number("5"))},
	})
}

func TestNumbersEnd(t *testing.T) { // P7.1
	checkReadings(t, []reading{
		{"1.", row(number("1"), delim("."))}, {"1.a", row(number("1"), delim("."), ident("a"))}, {"1..5", row(number("1"), delim("."), number(".5"))}, {"1.5.6", row(number("1.5"), number(".6"))}, {".5.6", row(number(".5"), number(".6"))}, {"1.%", row(number("1"), delim("."), delim("%"))}, {"1.+5", row(number("1"), delim("."), number("+5"))}, {"1.e3", row(number("1"), delim("."), ident("e3"))},
		{"1e", row(measure("1", "e"))}, {"1e+", row(measure("1", "e"), delim("+"))}, {"1e-", row(measure("1", "e-"))}, {"1e-x", row(measure("1", "e-x"))}, {"1e+x", row(measure("1", "e"), delim("+"), ident("x"))}, {"1ex", row(measure("1", "ex"))}, {"1E", row(measure("1", "E"))}, {"1e.5", row(measure("1", "e"), number(".5"))}, {"1e+.5", row(measure("1", "e"), number("+.5"))}, {"1e-.5", row(measure("1", "e-"), number(".5"))},
		{"1e--1", row(measure("1", "e--1"))}, {"1e++1", row(measure("1", "e"), delim("+"), number("+1"))}, {"1e+-1", row(measure("1", "e"), delim("+"), number("-1"))}, {"1e%", row(measure("1", "e"), delim("%"))}, {"1e3.5", row(number("1e3"), number(".5"))}, {"1e3e4", row(measure("1e3", "e4"))}, {"1e3e", row(measure("1e3", "e"))}, {"1e3%", row(percent("1e3"))}, {"1e3.", row(number("1e3"), delim("."))}, {"1e3-4", row(number("1e3"), number("-4"))}, {"1e 3", row(measure("1", "e"), white, number("3"))}, {"1e/**/3", row(measure("1", "e"), number("3"))},
		{"1-2", row(number("1"), number("-2"))}, {"1-a", row(measure("1", "-a"))}, {"1--", row(measure("1", "--"))}, {"1--2", row(measure("1", "--2"))}, {"1_", row(measure("1", "_"))}, {"1\\", row(measure("1", "\uFFFD"))}, {"1\\\n", row(number("1"), delim("\\"), white)}, {"1-\\\n", row(number("1"), delim("-"), delim("\\"), white)}, {"1-\\", row(measure("1", "-\uFFFD"))}, {"1\\31", row(measure("1", "1"))}, {"1\\.a", row(measure("1", ".a"))},
		{"1\\65 3", row(measure("1", "e3"))}, {"1\\65-3", row(measure("1", "e-3"))}, {"1\\45 9x", row(measure("1", "E9x"))}, {"1\\65-x", row(measure("1", "e-x"))}, {"1\\2D", row(measure("1", "-"))}, {"1-\\33", row(measure("1", "-3"))}, {"1\\25", row(measure("1", "%"))}, {"1e\\33", row(measure("1", "e3"))}, {"1e-\\33", row(measure("1", "e-3"))},
		{"1px", row(measure("1", "px"))}, {"1PX", row(measure("1", "PX"))}, {"1px(", row(measure("1", "px"), sign("("))}, {"1px%", row(measure("1", "px"), delim("%"))}, {"1px2", row(measure("1", "px2"))}, {"1px.2", row(measure("1", "px"), number(".2"))}, {"1 px", row(number("1"), white, ident("px"))}, {"1%px", row(percent("1"), ident("px"))}, {"1\u05D0", row(measure("1", "\u05D0"))}, {"1\x00", row(measure("1", "\uFFFD"))},
		{"1% 2%", row(percent("1"), white, percent("2"))}, {"1 %", row(number("1"), white, delim("%"))}, {"1\\%", row(measure("1", "%"))}, {"0x1F", row(measure("0", "x1F"))}, {"1n+2", row(measure("1", "n"), number("+2"))}, {"1n-2", row(measure("1", "n-2"))},
	})
}

func TestPlusOrMinusAhead(t *testing.T) { // P7.1: a number ahead of Close, Close ahead of a name
	checkReadings(t, []reading{
		{"-1", row(number("-1"))}, {"-.1", row(number("-.1"))}, {"-1-->", row(measure("-1", "--"), delim(">"))}, {"-1 -->", row(number("-1"), white, closing)}, {"-->", row(closing)}, {"--a", row(ident("--a"))}, {"--\\", row(ident("--\uFFFD"))}, {"-a>", row(ident("-a"), delim(">"))}, {"-\\\n-", row(delim("-"), delim("\\"), white, delim("-"))},
		{"--.1", row(ident("--"), number(".1"))}, {"---1", row(ident("---1"))}, {"-->1", row(closing, number("1"))}, {"+-->", row(delim("+"), closing)}, {"+1-->", row(measure("+1", "--"), delim(">"))}, {"--->", row(ident("---"), delim(">"))}, {"- -->", row(delim("-"), white, closing)}, {"-/**/-->", row(delim("-"), closing)},
		{"+1", row(number("+1"))}, {"+.1", row(number("+.1"))}, {"++", row(delim("+"), delim("+"))}, {"+->", row(delim("+"), delim("-"), delim(">"))}, {"+\\", row(delim("+"), ident("\uFFFD"))}, {"-1a", row(measure("-1", "a"))}, {"+1%", row(percent("+1"))}, {"-.a", row(delim("-"), delim("."), ident("a"))}, {"-.-", row(delim("-"), delim("."), delim("-"))},
		{"1-1", row(number("1"), number("-1"))}, {"1+1", row(number("1"), number("+1"))}, {"a-1", row(ident("a-1"))}, {"a+1", row(ident("a"), number("+1"))}, {")-1", row(sign(")"), number("-1"))}, {")-->", row(sign(")"), closing)}, {")--", row(sign(")"), ident("--"))}, {"a -1", row(ident("a"), white, number("-1"))},
	})
}

func TestDelims(t *testing.T) { // P7.1
	for _, s := range []string{"!", "$", "%", "&", "*", "+", "-", ".", "/", "<", "=", ">", "?", "@", "^", "\x60", "|", "~", "#", "\x01", "\x08", "\v", "\x0E", "\x1F", "\x7F"} {
		checkTokens(t, s, delim(s))
		checkTokens(t, s+" "+s, delim(s), white, delim(s))
		if s != "-" {
			checkTokens(t, "a "+s+s, ident("a"), white, delim(s), delim(s))
		}
	}
	checkReadings(t, []reading{
		{"a>b", row(ident("a"), delim(">"), ident("b"))}, {"a/b", row(ident("a"), delim("/"), ident("b"))}, {"a*b", row(ident("a"), delim("*"), ident("b"))}, {"*/", row(delim("*"), delim("/"))}, {"/ *", row(delim("/"), white, delim("*"))}, {"//*a*/", row(delim("/"))}, {"!important", row(delim("!"), ident("important"))}, {"~=|=^=$=*=||", row(delim("~"), delim("="), delim("|"), delim("="), delim("^"), delim("="), delim("$"), delim("="), delim("*"), delim("="), delim("|"), delim("|"))},
	})
}

func TestComments(t *testing.T) { // P7.1
	checkReadings(t, []reading{
		{"/**/a", row(ident("a"))}, {"a/**/", row(ident("a"))}, {"a/* b */c", row(ident("a"), ident("c"))}, {"/* a *//* b */c", row(ident("c"))}, {"/* \n \"'\\ /* */a", row(ident("a"))}, {"/***/a", row(ident("a"))}, {"/****/a", row(ident("a"))}, {"/* * / */a", row(ident("a"))}, {"/*\\*/a", row(ident("a"))}, {"/*a*/*/b", row(delim("*"), delim("/"), ident("b"))},
		{"/*/a*/b", row(ident("b"))}, {"/*/", nil}, {"/*/*/a", row(ident("a"))}, {"a/*", row(ident("a"))}, {"a/*b", row(ident("a"))}, {"a/*b*", row(ident("a"))}, {"a/**", row(ident("a"))}, {"a/*/", row(ident("a"))}, {"a /*", row(ident("a"), white)}, {"\"a\n/*\"", row(bad("a"), white)}, {"a/**//*", row(ident("a"))}, {"/*\x00\xFF*/a", row(ident("a"))}, {"/*\r\n*/a", row(ident("a"))},
		{"/ /**/a", row(delim("/"), white, ident("a"))}, {"\\/**/", row(ident("/"), delim("*"), delim("*"), delim("/"))}, {"\\/**", row(ident("/"), delim("*"), delim("*"))}, {"a\\/*b*/", row(ident("a/"), delim("*"), ident("b"), delim("*"), delim("/"))}, {"'/*'*/", row(text("/*"), delim("*"), delim("/"))},
		{"@/**/a", row(delim("@"), ident("a"))}, {"</**/!--", row(delim("<"), delim("!"), ident("--"))}, {"-/**/1", row(delim("-"), number("1"))}, {"1/**/.5", row(number("1"), number(".5"))}, {"a/**/b", row(ident("a"), ident("b"))}, {"a/**/-b", row(ident("a"), ident("-b"))}, {"\\41/**/b", row(ident("A"), ident("b"))},
		{" /**/a", row(white, ident("a"))}, {"a/**/ b", row(ident("a"), white, ident("b"))}, {"a /**/b", row(ident("a"), white, ident("b"))}, {"\\\n/**/a", row(delim("\\"), white, ident("a"))},
	})
}

func TestCommentsAmidWhite(t *testing.T) { // P7.1: a comment is no White
	for _, x := range []reading{
		{" /**/ ", row(white, white)}, {" /**/\t", row(white, white)}, {"\n/**/\r\n", row(white, white)}, {" /**//**/ ", row(white, white)}, {" \t/* a *//* b */ \f", row(white, white)}, {"/**/ /**/ /**/", row(white, white)},
		{"\n/* a */\t/* b */ ", row(white, white, white)}, {" /**/ /**/ ", row(white, white, white)}, {" /**/ /*", row(white, white)}, {" /* ", row(white)}, {" /**/", row(white)}, {"/**/ ", row(white)}, {" /*/ */ ", row(white, white)},
	} {
		checkTokens(t, x.s, x.want...)
		checkTokens(t, "a"+x.s, append(row(ident("a")), x.want...)...)
		checkTokens(t, "\\41 "+x.s, append(row(ident("A")), x.want...)...)
		checkTokens(t, "\"a\n/**/"+x.s, append(row(bad("a"), white), x.want...)...)
		checkTokens(t, "\\\n/**/"+x.s, append(row(delim("\\"), white), x.want...)...)
		if x.s != " /* " && x.s != " /**/ /*" { // whose last comment takes all
			checkTokens(t, x.s+"b", append(x.want, ident("b"))...)
		}
	}
	checkTokens(t, "a /* b */ c", ident("a"), white, white, ident("c"))
	checkTokens(t, "a /* b */c", ident("a"), white, ident("c"))
	checkTokens(t, "a/* b */ c", ident("a"), white, ident("c"))
}

func TestCommentsBetweenAllTokens(t *testing.T) { // P7.1
	for _, x := range samples {
		for _, y := range samples {
			if x.endsLine() {
				continue
			}
			s, want := x.s+"/**/"+y.s, row(x.t, y.t)
			if y.endsLine() {
				s, want = s+"\n", append(want, white)
			}
			checkTokens(t, s, want...)
			checkTokens(t, "/* 0 */"+strings.Replace(s, "/**/", "/* 1 *//* \" */", 1)+"/* 3", want...)
		}
	}
}

func TestCharactersOfATextAreMadeOthers(t *testing.T) { // P7.1
	checkReadings(t, []reading{
		{"\x00", row(ident("\uFFFD"))}, {"a\x00b", row(ident("a\uFFFDb"))}, {"#\x00", row(id("\uFFFD"))}, {"@\x00", row(at("\uFFFD"))}, {"-\x00", row(ident("-\uFFFD"))}, {"\\\x00", row(ident("\uFFFD"))}, {"\x00(", row(call("\uFFFD"))}, {"1\x00", row(measure("1", "\uFFFD"))}, {"'\x00", row(text("\uFFFD"))}, {"'\x00\n", row(bad("\uFFFD"), white)},
		{"\"a\r\nb", row(bad("a"), white, ident("b"))}, {"\"a\r", row(bad("a"), white)}, {"\"a\f", row(bad("a"), white)}, {"\"a\n\r\f\r\n\r\rb", row(bad("a"), white, ident("b"))}, {"a\fb\rc\r\nd", row(ident("a"), white, ident("b"), white, ident("c"), white, ident("d"))},
		{"\"\\\r\nb\"", row(text("b"))}, {"\"\\\n\r", row(bad(""), white)}, {"\"\\\f\n", row(bad(""), white)}, {"\"\\\r\f", row(bad(""), white)}, {"\\41\r\nb", row(ident("Ab"))}, {"\\41\n\rb", row(ident("A"), white, ident("b"))}, {"\\41\fb", row(ident("Ab"))}, {"\\41\rb", row(ident("Ab"))}, {"\\41\r\rb", row(ident("A"), white, ident("b"))}, {"\\41\f\nb", row(ident("A"), white, ident("b"))}, {"\\41\r\n\nb", row(ident("A"), white, ident("b"))},
		{"\xFF", row(ident("\uFFFD"))}, {"a\xC3b", row(ident("a\uFFFDb"))}, {"\xC3\xA9", row(ident("\u00E9"))}, {"\xE2\x82", row(ident("\uFFFD"))}, {"\xE2\x82(", row(call("\uFFFD"))}, {"\xF0\x80\x80", row(ident("\uFFFD\uFFFD\uFFFD"))}, {"\xED\xA0\x80", row(ident("\uFFFD\uFFFD\uFFFD"))}, {"#\xFF", row(id("\uFFFD"))}, {"'\xFF\xC3'", row(text("\uFFFD\uFFFD"))}, {"'\xC3\n", row(bad("\uFFFD"), white)}, {"\\\xFF", row(ident("\uFFFD"))}, {"\\\xE2\x82a", row(ident("\uFFFDa"))}, {"1\xFF", row(measure("1", "\uFFFD"))}, {"1.\xFF", row(number("1"), delim("."), ident("\uFFFD"))}, {"-\xC0\xAF", row(ident("-\uFFFD\uFFFD"))}, {"\xC3\r\n\xC3", row(ident("\uFFFD"), white, ident("\uFFFD"))},
	})
}

func TestEveryCharacterByItself(t *testing.T) { // P7.1
	for r := rune(0); r <= 0x10FFFF; r++ {
		if 0xD800 <= r && r <= 0xDFFF {
			continue
		}
		s := string(r)
		want := delim(s)
		switch {
		case r == 0 || r == '\\':
			want = ident("\uFFFD")
		case strings.Contains("\t\n\f\r ", s):
			want = white
		case strings.Contains(",:;()[]{}", s):
			want = sign(s)
		case strings.Contains("\"'", s):
			want = text("")
		case '0' <= r && r <= '9':
			want = number(s)
		case 'a' <= r && r <= 'z' || 'A' <= r && r <= 'Z' || r == '_' || r >= 0x80:
			want = ident(s)
		}
		checkTokens(t, s, want)
		if t.Failed() {
			return
		}
	}
}
