package csstok_test

import (
	"fmt"
	"math/rand"
	"regexp"
	"slices"
	"strconv"
	"strings"
	"testing"

	"selvedge/csstok"
	"selvedge/utf"
)

// A second reader and a second printer of another build: patterns over a text's bytes; they follow the chapter's words alone.

const (
	hexEscape     = `\\[0-9A-Fa-f]{1,6}[\t\n ]?`
	otherEscape   = `\\[^\n0-9A-Fa-f]`
	escape        = `(?:` + hexEscape + `|` + otherEscape + `|\\\z)`
	nameBeginning = `[A-Za-z_\x{80}-\x{10FFFF}]`
	nameCharacter = `[A-Za-z0-9_\x{80}-\x{10FFFF}-]`
	name          = `(?:--|-?(?:` + nameBeginning + `|` + escape + `))(?:` + nameCharacter + `|` + escape + `)*`
	comments      = `(?:/\*(?s:.*?)(?:\*/|\z))`
)

var (
	lines = strings.NewReplacer("\r\n", "\n", "\r", "\n", "\f", "\n", "\x00", "\uFFFD")

	commentPattern = regexp.MustCompile(`^` + comments + `+`)
	whitePattern   = regexp.MustCompile(`^[\t\n ]+`)
	quotedPattern  = regexp.MustCompile(`^(?:"(?:[^"\n\\]|\\\n|` + escape + `)*|'(?:[^'\n\\]|\\\n|` + escape + `)*)`)
	hashPattern    = regexp.MustCompile(`^#(?:` + nameCharacter + `|` + escape + `)+`)
	numberPattern  = regexp.MustCompile(`^[+-]?(?:[0-9]+(?:\.[0-9]+)?|\.[0-9]+)(?:[eE][+-]?[0-9]+)?`)
	namePattern    = regexp.MustCompile(`^` + name)
	escapePattern  = regexp.MustCompile(`\\\n|` + escape)
)

// unescape tells what a name, or what stands in quotes, says.
func unescape(s, atTheEnd string) string {
	return escapePattern.ReplaceAllStringFunc(s, func(s string) string {
		switch digits := strings.TrimRight(s[1:], "\t\n "); {
		case s == `\`:
			return atTheEnd
		case s == "\\\n":
			return ""
		case digits == "" || strings.Trim(digits, "0123456789abcdefABCDEF") != "":
			return s[1:]
		default:
			n, _ := strconv.ParseInt(digits, 16, 32)
			if n == 0 || n >= 0xD800 && n < 0xE000 || n >= 0x110000 {
				return "\uFFFD"
			}
			return string(rune(n))
		}
	})
}

func unescapeName(s string) string { return unescape(s, "\uFFFD") }

// firstIn reads the token with which s begins, and tells how many bytes it has.
func firstIn(s string) (csstok.Token, int) {
	if n := len(whitePattern.FindString(s)); n > 0 {
		return white, n
	}
	if q := quotedPattern.FindString(s); q != "" {
		value := unescape(q[1:], "")
		switch {
		case len(q) == len(s):
			return text(value), len(q)
		case s[len(q)] == q[0]:
			return text(value), len(q) + 1
		}
		return bad(value), len(q)
	}
	if h := hashPattern.FindString(s); h != "" {
		return csstok.Token{Kind: csstok.Hash, Value: unescapeName(h[1:]), ID: namePattern.MatchString(s[1:])}, len(h)
	}
	if n := numberPattern.FindString(s); n != "" {
		unit := namePattern.FindString(s[len(n):])
		switch {
		case unit != "":
			return measure(n, unescapeName(unit)), len(n) + len(unit)
		case strings.HasPrefix(s[len(n):], "%"):
			return percent(n), len(n) + 1
		}
		return number(n), len(n)
	}
	return firstSignOrName(s)
}

func firstSignOrName(s string) (csstok.Token, int) {
	switch {
	case strings.HasPrefix(s, "<!--"):
		return open, 4
	case strings.HasPrefix(s, "-->"):
		return closing, 3
	}
	if n := namePattern.FindString(s); n != "" {
		if strings.HasPrefix(s[len(n):], "(") {
			return call(unescapeName(n)), len(n) + 1
		}
		return ident(unescapeName(n)), len(n)
	}
	if s[0] == '@' {
		if n := namePattern.FindString(s[1:]); n != "" {
			return at(unescapeName(n)), 1 + len(n)
		}
	}
	if strings.Contains(",:;()[]{}", s[:1]) {
		return sign(s[:1]), 1
	}
	return delim(s[:1]), 1
}

func tokensSecond(s string) []csstok.Token {
	s = lines.Replace(utf.String(utf.Runes(s)))
	var l []csstok.Token
	for {
		s = s[len(commentPattern.FindString(s)):]
		if s == "" {
			return l
		}
		t, n := firstIn(s)
		l = append(l, t)
		s = s[n:]
	}
}

var (
	notOfNames  = regexp.MustCompile(`[^A-Za-z0-9_\x{80}-\x{10FFFF}-]`)
	lineSigns   = regexp.MustCompile(`[\n\f\r]`)
	quoteSigns  = regexp.MustCompile(`["\\]`)
	firstDigit  = regexp.MustCompile(`^-?[0-9]`)
	powerInUnit = regexp.MustCompile(`^[eE]-?[0-9]`)
)

func escaped(s string) string { return fmt.Sprintf("\\%X ", []rune(s)[0]) }

func printedName(s string) string {
	behind := notOfNames.ReplaceAllStringFunc(s, escaped)
	switch n := len(firstDigit.FindString(s)); {
	case n > 0:
		return s[:n-1] + escaped(s[n-1:n]) + notOfNames.ReplaceAllStringFunc(s[n:], escaped)
	case s == "-":
		return escaped(s)
	}
	return behind
}

func printedUnit(s string) string {
	if powerInUnit.MatchString(s) {
		return escaped(s[:1]) + notOfNames.ReplaceAllStringFunc(s[1:], escaped)
	}
	return printedName(s)
}

func printedQuoted(s string) string {
	return `"` + lineSigns.ReplaceAllStringFunc(quoteSigns.ReplaceAllString(s, `\$0`), escaped)
}

// printedOne tells the text of a token that stands behind another one.
func printedOne(behind, x csstok.Token) string {
	switch x.Kind {
	case csstok.White:
		if behind.Kind == csstok.Bad || behind.Kind == csstok.Delim && behind.Value == `\` {
			return "\n"
		}
		return " "
	case csstok.Hash:
		if !x.ID {
			return "#" + notOfNames.ReplaceAllStringFunc(x.Value, escaped)
		}
		return "#" + printedName(x.Value)
	case csstok.Text:
		return printedQuoted(x.Value) + `"`
	case csstok.Bad:
		return printedQuoted(x.Value)
	}
	return map[uint8]string{
		csstok.Ident: printedName(x.Value), csstok.Func: printedName(x.Value) + "(", csstok.At: "@" + printedName(x.Value),
		csstok.Number: x.Value, csstok.Percent: x.Value + "%", csstok.Measure: x.Value + printedUnit(x.Unit),
		csstok.Sign: x.Value, csstok.Delim: x.Value, csstok.Open: "<!--", csstok.Close: "-->",
	}[x.Kind]
}

func printSecond(l []csstok.Token) string {
	s := ""
	behind := csstok.Token{}
	for _, x := range l {
		if slices.Contains(strings.Fields(apart(behind.Kind)), kindName(x)) {
			s += "/**/"
		}
		s += printedOne(behind, x)
		behind = x
	}
	return s
}

func checkAgainstSecond(t *testing.T, s string) []csstok.Token {
	t.Helper()
	l := csstok.Tokens(s)
	if want := tokensSecond(s); !slices.Equal(l, want) {
		t.Fatalf("Tokens(%q) is %s, not %s", s, show(l...), show(want...))
	}
	if printed, want := csstok.Print(l), printSecond(l); printed != want {
		t.Fatalf("Print(%s) is %q, not %q", show(l...), printed, want)
	}
	if checkReadAgain(t, s, l); t.Failed() {
		t.FailNow()
	}
	return l
}

// eachText goes over all texts of at most n of these parts.
func eachText(parts []string, n int, visit func(s string)) {
	var grow func(s string, n int)
	grow = func(s string, n int) {
		visit(s)
		if n == 0 {
			return
		}
		for _, part := range parts {
			grow(s+part, n-1)
		}
	}
	grow("", n)
}

func TestShortTextsAgainstASecondReader(t *testing.T) { // P7.1, P7.2, P7.4
	for _, parts := range []string{
		"+ - . 1 e a %", "- \\ a 1 \n >", "/ * a 1 blank", "# @ - \\ 1 \n", "\" ' \\ \n a /", "< ! - > a /**/", "\\ a g 0 blank \n", "1 e - \\65 ( 3", "/**/ blank \n \\ \" a", "- \\2D blank \\31 1 e",
	} {
		var l []string
		for _, part := range strings.Split(parts, " ") {
			l = append(l, strings.ReplaceAll(part, "blank", " "))
		}
		eachText(l, 5, func(s string) { checkAgainstSecond(t, s) })
	}
}

func TestTextsAgainstASecondReader(t *testing.T) { // P7.1, P7.2, P7.4
	parts := []string{
		"a", "b-c", "-", "--", "_", "e", "E", "e3", "-e-3", "1", "0", "23", ".", "+", "%", "px", "\u05D0", "\U0001F600", "\u0080", "\x7F", "\x00", "\xFF", "\xE2\x82", "\xC3",
		" ", " ", "\t", "\n", "\r", "\f", "\r\n", "\v", "\\", "\\", "\\\n", "\\\r\n", "\\41", "\\41 ", "\\0", "\\000031", "\\D800 ", "\\110000", "\\g", "\\\"", "\\A ", "\\2D", "\\d\n", "\\c",
		"\"", "\"", "'", "'", "/*", "*/", "/**/", "/* x */", "/", "*", "<!--", "-->", "<", "!", ">", "#", "#a", "#1", "@", "@a", "a(", "url(", "(", ")", "[", "]", "{", "}", ",", ":", ";", "=", "~", "1px", "1.5e3", "-.5%", "1e", "1e-",
	}
	choose := rand.New(rand.NewSource(7))
	count := map[uint8]int{}
	for i := range 100000 {
		s := ""
		for range 1 + choose.Intn(2+i%12) {
			s += parts[choose.Intn(len(parts))]
		}
		for _, x := range checkAgainstSecond(t, s) {
			count[x.Kind]++
		}
	}
	for kind := csstok.White; kind <= csstok.Close; kind++ {
		if count[kind] < 1000 {
			t.Errorf("kind %d only %d times", kind, count[kind])
		}
	}
}

func TestSheetsAgainstASecondReader(t *testing.T) { // P7.1, P7.2, P7.4
	sheets := []string{
		"p > .a, #b[dir=\"rtl\"]{DIRECTION : rtl !Important; x}", "@media x{a{b:c}} a b+c{d:e}; f{g:h}", "a{b:c;;d e;f:(;);g:};h{i:j}", "a..b{c:d} e{f:\"x", "<!-- a { width: calc(1px + -2.5e3em) } -->", "@import url( 'x\\\ny' ) ;\r\n/* c */ \\31 23 { unicode-range: u+26-ff }",
	}
	choose := rand.New(rand.NewSource(8))
	const signs = "-+.\\\"'#@(){}[],:;/*<>! \n\r\f\x00\xFF1eEaxg%"
	for _, s := range sheets {
		checkAgainstSecond(t, s)
		for i := range len(s) + 1 {
			checkAgainstSecond(t, s[:i])
			checkAgainstSecond(t, s[i:])
			for range 20 {
				j := choose.Intn(len(signs))
				checkAgainstSecond(t, s[:i]+signs[j:j+1]+s[i:])
				if i < len(s) {
					checkAgainstSecond(t, s[:i]+signs[j:j+1]+s[i+1:])
				}
			}
		}
	}
}

func TestRandomTokensAgainstASecondPrinter(t *testing.T) { // P7.2
	values := []string{"", "a", "-", "--", "-1", "1", "1a", "e3", "E-3", "e-", ".", "(", "\\", "\n", "a b", "\"", "'", "\r\f", "\u05D0", "\x00", "%", "-\\", "\\\\", "+1.5e3"}
	choose := rand.New(rand.NewSource(9))
	pick := func() string { return values[choose.Intn(len(values))] }
	for range 50000 {
		var l []csstok.Token
		for range choose.Intn(6) {
			l = append(l, csstok.Token{Kind: uint8(choose.Intn(int(csstok.Close) + 1)), Value: pick(), Unit: pick(), ID: choose.Intn(2) == 0})
		}
		if s, want := csstok.Print(l), printSecond(l); s != want {
			t.Fatalf("Print(%s) is %q, not %q", show(l...), s, want)
		}
	}
}

func TestLongTexts(t *testing.T) { // P7.1, P7.2, P7.4
	const n = 60000
	for _, part := range []string{"a", "1", "-", "+", ".", "\\", " ", "\n", "\"", "'", "#", "@", "(", "/", "*", "/*", "*/", "/**/", " /**/", "\\41 ", "\\\n", "1e", "a(", "\"\n", "<!--", "-->", "\x00", "\r", "\xE2\x82", "\u05D0", "e-"} {
		for _, ahead := range []string{"", "\"", "a", "1", "/*"} {
			s := ahead + strings.Repeat(part, n/len(part))
			l := csstok.Tokens(s)
			checkReadAgain(t, ahead+part+" ..", l)
		}
	}
}
