package cssparse_test

import (
	"math/rand"
	"regexp"
	"slices"
	"strings"
	"testing"

	"selvedge/api"
	"selvedge/cssparse"
	"selvedge/csstok"
)

// A second way of another build: each token is a letter, and patterns over these follow the chapter's words; pieces are a tree.

// letter tells a token's: a Sign's its own, a Delim's its own if the chapter names it.
func letter(x csstok.Token) string {
	switch x.Kind {
	case csstok.Sign:
		return x.Value
	case csstok.Delim:
		if strings.Contains(".*>+=!", x.Value) {
			return x.Value
		}
		return "d"
	case csstok.Ident:
		if importantPattern.MatchString(x.Value) {
			return "I"
		}
		return "i"
	case csstok.Hash:
		if x.ID {
			return "h"
		}
		return "d"
	}
	return map[uint8]string{csstok.White: "w", csstok.Func: "f", csstok.At: "@", csstok.Text: "t", csstok.Bad: "b", csstok.Number: "d", csstok.Percent: "d", csstok.Measure: "d", csstok.Open: "o", csstok.Close: "o"}[x.Kind]
}

func letters(l []csstok.Token) string {
	var b strings.Builder
	for _, x := range l {
		b.WriteString(letter(x))
	}
	return b.String()
}

// node is a piece: its token, and of one that opens, what is within and whether it is closed.
type node struct {
	token  csstok.Token
	within []node
	closed []csstok.Token
}

var closers = map[string]string{"{": "}", "(": ")", "f": ")", "[": "]"}

// nested tells the pieces up to a closing sign, that sign, and what is behind it.
func nested(l []csstok.Token, closing string) (nodes []node, closed, rest []csstok.Token) {
	for len(l) > 0 {
		x := node{token: l[0]}
		l = l[1:]
		if letter(x.token) == closing {
			return nodes, []csstok.Token{x.token}, l
		}
		if c := closers[letter(x.token)]; c != "" {
			x.within, x.closed, l = nested(l, c)
		}
		nodes = append(nodes, x)
	}
	return nodes, nil, nil
}

// flat tells the tokens of pieces.
func flat(nodes []node) []csstok.Token {
	var l []csstok.Token
	for _, x := range nodes {
		l = append(append(append(l, x.token), flat(x.within)...), x.closed...)
	}
	return l
}

func heads(nodes []node) string {
	var l []csstok.Token
	for _, x := range nodes {
		l = append(l, x.token)
	}
	return letters(l)
}

func closesNone(nodes []node) bool {
	return slices.ContainsFunc(nodes, func(x node) bool { return strings.Contains("})]", letter(x.token)) || closesNone(x.within) })
}

const (
	part     = `(?:h|\.[iI]|\[w*[iI]w*(?:=w*[iIt]w*)?\])`
	compound = `(?:[iI*]` + part + `*|` + part + `+)`
	selector = `w*` + compound + `(?:(?:w*[>+]w*|w+)` + compound + `)*w*`
)

var (
	rowPattern       = regexp.MustCompile(`^` + selector + `(?:,` + selector + `)*$`)
	compoundPattern  = regexp.MustCompile(`^(w*[>+]?w*)(` + compound + `)w*`)
	partPattern      = regexp.MustCompile(`^` + part)
	atRulePattern    = regexp.MustCompile(`^@[^;{]*[;{]?`)
	rulePattern      = regexp.MustCompile(`^([^{]*)\{`)
	declPattern      = regexp.MustCompile(`^[^;]+`)
	valuePattern     = regexp.MustCompile(`^[iI]w*:w*(.*?)(w*!w*I)?w*$`)
	importantPattern = regexp.MustCompile(`^[iI][mM][pP][oO][rR][tT][aA][nN][tT]$`)
	capitals         = regexp.MustCompile(`[A-Z]`)
)

func lower(s string) string { return capitals.ReplaceAllStringFunc(s, strings.ToLower) }

func partsSecond(l []csstok.Token, c *cssparse.Compound) {
	for len(l) > 0 {
		n := len(partPattern.FindString(letters(l)))
		switch letter(l[0]) {
		case "h":
			c.IDs = append(c.IDs, l[0].Value)
		case ".":
			c.Classes = append(c.Classes, l[1].Value)
		case "[":
			var values []string
			for _, x := range l[:n] {
				if strings.Contains("iIt", letter(x)) {
					values = append(values, x.Value)
				}
			}
			c.Tests = append(c.Tests, cssparse.Test{Name: lower(values[0]), Value: strings.Join(values[1:], ""), Has: len(values) == 2})
		}
		l = l[n:]
	}
}

func selectorSecond(l []csstok.Token) cssparse.Selector {
	var s cssparse.Selector
	for len(l) > 0 {
		m := compoundPattern.FindStringSubmatch(letters(l))
		c := cssparse.Compound{Join: cssparse.Descendant}
		switch joint := strings.Trim(m[1], "w"); {
		case s == nil:
			c.Join = cssparse.First
		case joint == ">":
			c.Join = cssparse.Child
		case joint == "+":
			c.Join = cssparse.Next
		}
		parts := l[len(m[1]) : len(m[1])+len(m[2])]
		switch letter(parts[0]) {
		case "i", "I":
			c.Type = lower(parts[0].Value)
			fallthrough
		case "*":
			parts = parts[1:]
		}
		partsSecond(parts, &c)
		s = append(s, c)
		l = l[len(m[0]):]
	}
	return s
}

func rowSecond(l []csstok.Token) ([]cssparse.Selector, bool) {
	s := letters(l)
	if !rowPattern.MatchString(s) {
		return nil, false
	}
	var row []cssparse.Selector
	for _, part := range strings.Split(s, ",") {
		row = append(row, selectorSecond(l[:len(part)]))
		l = l[min(len(part)+1, len(l)):]
	}
	return row, true
}

func declSecond(nodes []node) (cssparse.Decl, bool) {
	l := flat(nodes)
	m := valuePattern.FindStringSubmatchIndex(letters(l))
	if m == nil || m[2] == m[3] || closesNone(nodes) {
		return cssparse.Decl{}, false
	}
	value := l[m[2]:m[3]]
	if strings.Contains(letters(value), "b") {
		return cssparse.Decl{}, false
	}
	return cssparse.Decl{Name: lower(l[0].Value), Value: csstok.Print(value), Important: m[4] >= 0}, true
}

func declsSecond(nodes []node) []cssparse.Decl {
	var decls []cssparse.Decl
	for len(nodes) > 0 {
		s := heads(nodes)
		n := 1
		switch {
		case s[0] == 'w' || s[0] == ';':
		case s[0] == '@':
			n = len(atRulePattern.FindString(s))
		default:
			n = len(declPattern.FindString(s))
			if d, ok := declSecond(nodes[:n]); ok {
				decls = append(decls, d)
			}
		}
		nodes = nodes[n:]
	}
	return decls
}

func rulesSecond(nodes []node) []cssparse.Rule {
	var rules []cssparse.Rule
	for len(nodes) > 0 {
		s := heads(nodes)
		n := 1
		switch {
		case s[0] == 'w' || s[0] == 'o':
		case s[0] == '@':
			n = len(atRulePattern.FindString(s))
		default:
			m := rulePattern.FindString(s)
			if m == "" {
				return rules
			}
			n = len(m)
			if row, ok := rowSecond(flat(nodes[:n-1])); ok {
				rules = append(rules, cssparse.Rule{Selectors: row, Decls: declsSecond(nodes[n-1].within)})
			}
		}
		nodes = nodes[n:]
	}
	return rules
}

// checkAgainstSecond asks all three calls of a text that is within all limits, and tells what they told.
func checkAgainstSecond(t *testing.T, s string) (rules []string, decls []string, row string) {
	t.Helper()
	l := csstok.Tokens(s)
	nodes, _, _ := nested(l, "none")
	r, e := cssparse.Parse(s)
	rules = showRules(r)
	if want := showRules(rulesSecond(nodes)); e != api.OK || !slices.Equal(rules, want) {
		t.Fatalf("Parse(%q) is %q, %d, not %q", s, rules, e, want)
	}
	d, e := cssparse.Style(s)
	decls = showDecls(d)
	if want := showDecls(declsSecond(nodes)); e != api.OK || !slices.Equal(decls, want) {
		t.Fatalf("Style(%q) is %q, %d, not %q", s, decls, e, want)
	}
	x, ok := cssparse.Select(s)
	row = showRow(x)
	if wanted, is := rowSecond(l); ok != is || row != showRow(wanted) {
		t.Fatalf("Select(%q) is %q, %t, not %q, %t", s, row, ok, showRow(wanted), is)
	}
	return rules, decls, row
}

// eachText goes over all texts of at most n of these parts.
func eachText(parts []string, n int, visit func(s string)) {
	visit("")
	if n == 0 {
		return
	}
	for _, part := range parts {
		eachText(parts, n-1, func(s string) { visit(part + s) })
	}
}

func TestShortTextsAgainstASecondWay(t *testing.T) { // P8.1, P8.2
	for _, x := range []struct {
		parts string
		n     int
	}{
		{"a blank > + , .b #c * [d]", 4},
		{"[ ] a = blank 't' ( B", 5},
		{"a . #b #1 * blank", 5},
		{"{ } a b: ; ( )", 5},
		{"a{ } @x ; { blank <!--", 5},
		{"a: ; @x { } ) blank", 5},
		{"a blank : ! important /**/ ;", 5},
		{"a{ b:c ( [ } ) ]", 5},
		{"a{b: f( { } ) ; 'x\n", 5},
	} {
		parts := strings.Split(x.parts, " ")
		for i, p := range parts {
			parts[i] = strings.ReplaceAll(p, "blank", " ")
		}
		eachText(parts, x.n, func(s string) { checkAgainstSecond(t, s) })
	}
}

var tellingParts = []string{
	"a", "B", "a", "important", "IMPORTANT", "\u05D0", "\\31 ", "-", " ", " ", " ", "\n", "/**/", " /**/ ", "{", "}", "{", "}", "(", ")", "[", "]", "f(", ":", ":", ";", ";", ",", ",", "@x", ".", ".a", "#i", "#1", "*", ">", "+", "=", "~", "!", "!important", "\"s\"", "'", "\"b\n", "<!--", "-->", "1", "1px", "2%", "%", "\\", "[a=b]", "a:b", "a{", "c:d;", "a{b:c}", "@x;", "@x{}", "\xFF", "\x00",
}

func TestRandomTextsAgainstASecondWay(t *testing.T) { // P8.1, P8.2
	choose := rand.New(rand.NewSource(8))
	counts := [3]int{}
	for i := range 60000 {
		s := ""
		for range 1 + choose.Intn(3+i%16) {
			s += tellingParts[choose.Intn(len(tellingParts))]
		}
		rules, decls, row := checkAgainstSecond(t, s)
		for j, told := range []bool{len(rules) > 0, len(decls) > 0, row != ""} {
			if told {
				counts[j]++
			}
		}
	}
	for i, n := range counts {
		if n < 1000 {
			t.Errorf("call %d told something only %d times", i, n)
		}
	}
}

// maker makes up what is right for the most part; white is what stands where White may.
type maker struct {
	*rand.Rand
	whites []string
}

func newMaker(seed int64, whites ...string) maker {
	return maker{rand.New(rand.NewSource(seed)), whites}
}

func (m maker) pick(l ...string) string { return l[m.Intn(len(l))] }

func (m maker) white() string { return m.pick(m.whites...) }

// seldom tells one of a list, one time in n, else the first one.
func (m maker) seldom(n int, l ...string) string {
	if m.Intn(n) > 0 {
		return l[0]
	}
	return m.pick(l...)
}

func (m maker) compound() string {
	s := m.pick("a", "Bc", "*", ".x", "#y", "[z]", "[z="+m.white()+"w]", "[ Z = \"W\" ]", "d.x.y#z") + m.seldom(4, "", "..", "#1", "[z=1]", ".", "b", ":c")
	return s + m.seldom(3, "", ".q", "#q", "[q]") + m.seldom(20, "", "(", "[r", "1", "{}")
}

func (m maker) prelude() string {
	s := m.compound()
	for range m.Intn(4) {
		s += m.white() + m.seldom(8, m.pick(",", ">", "+", " "), ",,", ";", "~", "> >", "") + m.white() + m.compound()
	}
	return s
}

func (m maker) declaration() string {
	s := m.seldom(8, m.pick("a", "B-c", "d"), "1", "", "{}") + m.white() + m.seldom(8, ":", "", "::", ",") + m.white()
	s += m.pick("e", "F g", "f(;)", "{h:i}", "\"k\"", "[m;n]", "1px 2%") + m.white() + m.seldom(8, "", "(j", ")", "\"l\n", "x", "]")
	return s + m.pick("", "", "!"+m.white()+"important", "! Important") + m.seldom(8, "", "!", "!x") + m.white()
}

func (m maker) sheet() string {
	s := ""
	for range 1 + m.Intn(4) {
		s += m.white() + m.seldom(3, "", "@x;", "@x{a{b:c}}", "<!--", "-->", ";", "}", "{a:b}", "@x y(;){}") + m.prelude() + m.white() + "{"
		for range m.Intn(4) {
			s += m.white() + m.declaration() + m.seldom(8, ";", "", ";@x;", ";@x{}", ";;")
		}
		s += m.seldom(8, "}", "", "}}", ")")
	}
	return s
}

func TestMadeUpSheetsAgainstASecondWay(t *testing.T) { // P8.1, P8.2
	m := newMaker(88, "", "", " ", "\n", "/**/", " /**/ ")
	n := 0
	for range 10000 {
		rules, _, _ := checkAgainstSecond(t, m.sheet())
		n += len(rules)
	}
	if n < 7000 {
		t.Errorf("only %d rules", n)
	}
}

func TestSpoiltSheetsAgainstASecondWay(t *testing.T) { // P8.1, P8.2
	for _, s := range []string{
		sheet, style, row, "P > .a, #b[dir=\"rtl\"]{DIRECTION : rtl !Important; x}", "@media x{a{b:c}} a b+c{d:e}; f{g:h}", "a{b:c;;d e;f:(;);g:};h{i:j}", "a..b{c:d} e{f:\"x", "<!-- a { width: calc((1px) + [2]) } --> b{c:{d};e:f",
	} {
		for i := range len(s) + 1 {
			checkAgainstSecond(t, s[:i])
			checkAgainstSecond(t, s[i:])
			for _, x := range tellingParts {
				checkAgainstSecond(t, s[:i]+x+s[i:])
				if i < len(s) {
					checkAgainstSecond(t, s[:i]+x+s[i+1:])
				}
			}
		}
	}
}
