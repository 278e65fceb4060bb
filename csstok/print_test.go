package csstok_test

import (
	"fmt"
	"slices"
	"strings"
	"testing"

	"selvedge/csstok"
)

// sample is a token and its text.
type sample struct {
	t csstok.Token
	s string
}

// samples are tokens as texts have them, of each kind.
var samples = []sample{
	{white, " "},
	{ident("a"), "a"}, {ident("e3"), "e3"}, {ident("-"), `\2D `}, {ident("--"), "--"}, {ident("-a"), "-a"}, {ident("1"), `\31 `}, {ident("\u05D0"), "\u05D0"}, {ident("a("), `a\28 `},
	{call("a"), "a("}, {call("--"), "--("}, {call("-1"), `-\31 (`},
	{at("a"), "@a"}, {at("-"), `@\2D `},
	{hash("1"), "#1"}, {hash("-"), "#-"}, {id("a"), "#a"}, {id("1"), `#\31 `},
	{text(""), `""`}, {text("a"), `"a"`}, {text("\"\\\n"), `"\"\\\A "`}, {text("/*"), `"/*"`},
	{bad(""), `"`}, {bad("a\\"), `"a\\`}, {bad("\n"), `"\A `},
	{number("1"), "1"}, {number("+.5"), "+.5"}, {number("-1e+3"), "-1e+3"},
	{percent("1"), "1%"}, {percent("-.5"), "-.5%"},
	{measure("1", "px"), "1px"}, {measure("1", "e3"), `1\65 3`}, {measure("+1", "-"), `+1\2D `},
	{sign(","), ","}, {sign(":"), ":"}, {sign(";"), ";"}, {sign("("), "("}, {sign(")"), ")"}, {sign("["), "["}, {sign("]"), "]"}, {sign("{"), "{"}, {sign("}"), "}"},
	{delim("+"), "+"}, {delim("-"), "-"}, {delim("."), "."}, {delim("#"), "#"}, {delim("@"), "@"}, {delim("/"), "/"}, {delim("*"), "*"}, {delim("<"), "<"}, {delim("!"), "!"}, {delim(">"), ">"}, {delim("%"), "%"}, {delim("\\"), "\\"}, {delim("="), "="}, {delim("\v"), "\v"},
	{open, "<!--"},
	{closing, "-->"},
}

// endsLine: is it a token behind which the line ends in each text?
func (x sample) endsLine() bool { return x.t.Kind == csstok.Bad || x.t == delim("\\") }

func TestPrintOfOneToken(t *testing.T) { // P7.2
	for _, x := range samples {
		checkPrint(t, x.s, x.t)
		if x.endsLine() {
			checkPrint(t, x.s+"\n", x.t, white)
			checkTokens(t, x.s+"\n", x.t, white)
		} else {
			checkTokens(t, x.s, x.t)
		}
	}
}

// apart tells which second kinds, a ( among them, /**/ keeps apart from the first one.
func apart(first uint8) string {
	switch first {
	case csstok.Ident:
		return "ident func number percent measure delim close ("
	case csstok.At, csstok.Hash, csstok.Number, csstok.Percent, csstok.Measure, csstok.Delim:
		return "ident func number percent measure delim close"
	}
	return ""
}

func kindName(x csstok.Token) string {
	if x.Kind == csstok.Sign && x.Value == "(" {
		return "("
	}
	return strings.Fields("none white ident func at hash text bad number percent measure sign delim open close")[x.Kind]
}

func TestPrintOfEachTwoTokens(t *testing.T) { // P7.2, P7.4
	for _, x := range samples {
		for _, y := range samples {
			between := ""
			if slices.Contains(strings.Fields(apart(x.t.Kind)), kindName(y.t)) {
				between = "/**/"
			}
			want := x.s + between + y.s
			if x.endsLine() && y.t == white {
				want = x.s + "\n"
			}
			checkPrint(t, want, x.t, y.t)
			checkPrint(t, ":"+want, sign(":"), x.t, y.t)
			checkPrint(t, want+";", x.t, y.t, sign(";"))
			if x.endsLine() && y.t != white { // no text has these
				continue
			}
			if x.t == white && y.t == white { // these are read as one, see TestPrintOfWhite
				continue
			}
			if y.endsLine() {
				checkTokens(t, want+"\n", x.t, y.t, white)
			} else {
				checkTokens(t, want, x.t, y.t)
			}
		}
	}
}

// checkNames asks for the text of a name in each token that has one: in a hash that is no ID, in a unit, in all others.
func checkNames(t *testing.T, name, inHash, inUnit, inOthers string) {
	t.Helper()
	checkPrint(t, inOthers, ident(name))
	checkPrint(t, inOthers+"(", call(name))
	checkPrint(t, "@"+inOthers, at(name))
	checkPrint(t, "#"+inOthers, id(name))
	checkPrint(t, "#"+inHash, hash(name))
	checkPrint(t, "1"+inUnit, measure("1", name))
	if name == "" || strings.Contains(name, "\x00") {
		return
	}
	for _, l := range [][]csstok.Token{row(ident(name)), row(call(name)), row(at(name)), row(id(name)), row(measure("1", name))} {
		checkReadAgain(t, name, l)
	}
	checkReadAgain(t, name, row(ident(name), white, ident(name), call(name), at(name), id(name), measure("-1.5e3", name), closing))
}

func TestPrintOfEachCharacterOfAName(t *testing.T) { // P7.2
	for r := rune(0); r < 0x200; r++ {
		s, escaped := string(r), fmt.Sprintf("\\%X ", r)
		switch {
		case 'a' <= r && r <= 'z' || 'A' <= r && r <= 'Z' || r == '_' || r >= 0x80:
			checkNames(t, s, s, s, s)
			checkNames(t, "x"+s, "x"+s, "x"+s, "x"+s)
			checkNames(t, "-"+s, "-"+s, "-"+s, "-"+s)
		case '0' <= r && r <= '9':
			checkNames(t, s, s, escaped, escaped)
			checkNames(t, "-"+s, "-"+s, "-"+escaped, "-"+escaped)
			checkNames(t, s+s, s+s, escaped+s, escaped+s)
			checkNames(t, "-"+s+s, "-"+s+s, "-"+escaped+s, "-"+escaped+s)
			checkNames(t, "x"+s, "x"+s, "x"+s, "x"+s)
			checkNames(t, "--"+s, "--"+s, "--"+s, "--"+s)
			checkNames(t, "-x"+s, "-x"+s, "-x"+s, "-x"+s)
			checkNames(t, s+"-", s+"-", escaped+"-", escaped+"-")
		case r == '-':
			checkNames(t, s, s, escaped, escaped)
			checkNames(t, "--", "--", "--", "--")
			checkNames(t, "x-", "x-", "x-", "x-")
			checkNames(t, "-x", "-x", "-x", "-x")
		default:
			checkNames(t, s, escaped, escaped, escaped)
			checkNames(t, "x"+s+"y", "x"+escaped+"y", "x"+escaped+"y", "x"+escaped+"y")
			checkNames(t, "-"+s, "-"+escaped, "-"+escaped, "-"+escaped)
			checkNames(t, s+"1", escaped+"1", escaped+"1", escaped+"1")
			checkNames(t, s+s, escaped+escaped, escaped+escaped, escaped+escaped)
			checkNames(t, s+" ", escaped+`\20 `, escaped+`\20 `, escaped+`\20 `)
		}
	}
	for _, s := range []string{"\u05D0", "\uFFFD", "\uFFFF", "\U0001F600", "\U0010FFFF", "a\u2028b", "\u0661"} {
		checkNames(t, s, s, s, s)
		checkNames(t, "-"+s, "-"+s, "-"+s, "-"+s)
	}
}

func TestPrintOfAnEInAUnit(t *testing.T) { // P7.2
	for _, e := range [][2]string{{"e", `\65 `}, {"E", `\45 `}} {
		for _, digits := range []string{"0", "3", "9", "12", "3x", "3-"} {
			s := e[0] + digits
			checkNames(t, s, s, e[1]+digits, s)
			s = e[0] + "-" + digits
			checkNames(t, s, s, e[1]+"-"+digits, s)
		}
		for _, behind := range []string{"", "x", "-", "--", "--1", "-x1", "x1", "m", "e1", "_1", "\u0661"} {
			s := e[0] + behind
			checkNames(t, s, s, s, s)
		}
		checkNames(t, "-"+e[0]+"3", "-"+e[0]+"3", "-"+e[0]+"3", "-"+e[0]+"3")
		checkNames(t, "x"+e[0]+"3", "x"+e[0]+"3", "x"+e[0]+"3", "x"+e[0]+"3")
		checkNames(t, e[0]+"+3", e[0]+`\2B 3`, e[0]+`\2B 3`, e[0]+`\2B 3`)
		checkNames(t, e[0]+"-.3", e[0]+`-\2E 3`, e[0]+`-\2E 3`, e[0]+`-\2E 3`)
		checkNames(t, e[0]+"3.", e[0]+`3\2E `, e[1]+`3\2E `, e[0]+`3\2E `)
	}
	checkPrint(t, `1e3\65 4`, measure("1e3", "e4"))
	checkPrint(t, `.5\45 -4`, measure(".5", "E-4"))
	checkNames(t, "1e3", "1e3", `\31 e3`, `\31 e3`)
	checkNames(t, "-1e3", "-1e3", `-\31 e3`, `-\31 e3`)
	checkNames(t, "%", `\25 `, `\25 `, `\25 `)
}

func TestPrintOfEachCharacterInQuotes(t *testing.T) { // P7.2
	for r := rune(0); r < 0x200; r++ {
		s, want := string(r), string(r)
		switch r {
		case '"', '\\':
			want = `\` + s
		case '\n':
			want = `\A `
		case '\f':
			want = `\C `
		case '\r':
			want = `\D `
		}
		for _, behind := range []string{"", "1", "f", " ", "x", `\"`} {
			value := s + strings.TrimPrefix(behind, `\`)
			checkPrint(t, `"`+want+behind+`"`, text(value))
			checkPrint(t, `"x`+want+behind, bad("x"+value))
			checkPrint(t, `"`+want+want+behind+"\n", bad(s+value), white)
			if r != 0 {
				checkReadAgain(t, s, row(text(value), text(s+value), ident("x"), bad(value), white, bad(s), white))
			}
		}
	}
	for _, s := range []string{"", "a b", "'", "/* */", "<!--", "\u05D0\U0001F600\uFFFD", "\u2028\u0085"} {
		checkPrint(t, `"`+s+`"`, text(s))
		checkPrint(t, `"`+s, bad(s))
		checkReadAgain(t, s, row(text(s), bad(s), white))
	}
}

func TestPrintOfWhite(t *testing.T) { // P7.2
	checkPrint(t, " ", white)
	checkPrint(t, "\"a\n", bad("a"), white)
	checkPrint(t, "\\\n", delim("\\"), white)
	checkPrint(t, "a ", ident("a"), white)
	checkPrint(t, `\5C  `, ident("\\"), white)
	checkPrint(t, `"\\" `, text("\\"), white)
	checkPrint(t, "/ ", delim("/"), white)
	checkPrint(t, "\"a\n", bad("a"), csstok.Token{Kind: csstok.White, Value: "x", Unit: "y", ID: true})
	checkPrint(t, "  ", white, white)
	checkPrint(t, "a   b", ident("a"), white, white, white, ident("b"))
	checkPrint(t, "\"a\n ", bad("a"), white, white)
	checkPrint(t, "\\\n  ", delim("\\"), white, white, white)
	checkPrint(t, "\"a;\\", bad("a"), sign(";"), delim("\\"))
	checkPrint(t, "\"a; ", bad("a"), sign(";"), white)
}

func TestPrintOfTokensMadeByHand(t *testing.T) { // P7.2
	// empty ones
	checkNames(t, "", "", "", "")
	checkPrint(t, "", number(""), sign(""))
	checkPrint(t, "/**/", number(""), delim(""))
	checkPrint(t, "%", percent(""))
	checkPrint(t, "", measure("", ""))
	checkPrint(t, "px", measure("", "px"))
	// fields without a meaning there
	checkPrint(t, "a/**/1", csstok.Token{Kind: csstok.Ident, Value: "a", Unit: "x", ID: true}, csstok.Token{Kind: csstok.Number, Value: "1", Unit: "px", ID: true})
	checkPrint(t, "<!---->", csstok.Token{Kind: csstok.Open, Value: "x", Unit: "y"}, csstok.Token{Kind: csstok.Close, Value: "x", ID: true})
	// what no text has
	checkPrint(t, "x y/**/1 2%/**/3 px", number("x y"), percent("1 2"), measure("3 ", "px"))
	checkPrint(t, "{}~=/**/\\\\ ", sign("{}"), delim("~="), delim("\\\\"), white)
	checkPrint(t, "#a#1#\\2E ", hash("a"), hash("1"), hash("."))
	checkPrint(t, "\n;\r", sign("\n"), sign(";"), sign("\r"))
	// a ( that is no sign, or not behind a name
	checkPrint(t, "a((", ident("a"), sign("(("))
	checkPrint(t, "a/**/(", ident("a"), delim("("))
	checkPrint(t, "a()", call("a"), sign(")"))
	checkPrint(t, "@a(#a(1(1%(1px(+(", at("a"), sign("("), id("a"), sign("("), number("1"), sign("("), percent("1"), sign("("), measure("1", "px"), sign("("), delim("+"), sign("("))
	// many
	checkPrint(t, "a/**/b c/**/1/**/2px#d@e/**/(f\"g\"/**/", ident("a"), ident("b"), white, ident("c"), number("1"), measure("2", "px"), id("d"), at("e"), delim("(f\"g\""), delim(""))
}

func TestPrintOfKindsThatAreNone(t *testing.T) { // P7.2
	for kind := int(csstok.Close) + 1; kind <= 256; kind++ {
		none := csstok.Token{Kind: uint8(kind), Value: "x", Unit: "y", ID: true}
		checkPrint(t, "", none)
		checkPrint(t, "", none, none)
		checkPrint(t, ";;", sign(";"), none, sign(";"))
		checkPrint(t, "a", none, ident("a"))
		checkPrint(t, "a", ident("a"), none)
		checkPrint(t, "1;", number("1"), none, sign(";"))
	}
}
