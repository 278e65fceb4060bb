package cssparse_test

import (
	"strconv"
	"strings"
	"testing"

	"selvedge/api"
	"selvedge/cssparse"
)

// filled tells s with as many blanks behind it as make it n bytes long.
func filled(s string, n int) string { return s + strings.Repeat(" ", n-len(s)) }

func checkParseError(t *testing.T, s string, want api.Errno) {
	t.Helper()
	if l, e := cssparse.Parse(s); e != want || len(l) != 0 {
		t.Errorf("Parse(%.60q) is %d rules, %d, not %d", s, len(l), e, want)
	}
}

func checkStyleError(t *testing.T, s string, want api.Errno) {
	t.Helper()
	if l, e := cssparse.Style(s); e != want || len(l) != 0 {
		t.Errorf("Style(%.60q) is %d declarations, %d, not %d", s, len(l), e, want)
	}
}

func TestMaxBytes(t *testing.T) { // P8.1, P8.2
	checkParse(t, filled("a{b:c}", api.MaxBytes), "a{b:c;}")
	checkParseError(t, filled("a{b:c}", api.MaxBytes+1), api.ErrLimit)
	checkStyle(t, filled("b:c", api.MaxBytes), "b:c")
	checkStyleError(t, filled("b:c", api.MaxBytes+1), api.ErrLimit)
	checkSelect(t, filled("a>b", api.MaxBytes), "a>b")
	checkSelect(t, filled("a>b", api.MaxBytes+1), "")
	// bytes count, not characters, nor tokens
	two := strings.Repeat("\u05D0", api.MaxBytes/2-1)
	checkSelect(t, two, strconv.Quote(two))
	checkSelect(t, two+".a", strconv.Quote(two)+".a")
	checkSelect(t, two+".ab", "")
	checkParse(t, two+"{}", strconv.Quote(two)+"{}")
	checkParseError(t, two+"{ }", api.ErrLimit)
	checkStyleError(t, two+":\u05D0 ", api.ErrLimit)
	checkParseError(t, "/*"+strings.Repeat("x", api.MaxBytes), api.ErrLimit)
	checkStyleError(t, strings.Repeat("\xFF", api.MaxBytes+1), api.ErrLimit)
	checkParse(t, strings.Repeat("\xFF", api.MaxBytes))
	checkStyle(t, strings.Repeat("\xFF", api.MaxBytes))
}

func TestLimitComesFirst(t *testing.T) { // P8.1, P8.2
	checkParseError(t, filled(strings.Repeat("a{}", 257), api.MaxBytes), api.ErrSheet)
	checkParseError(t, filled(strings.Repeat("a{}", 257), api.MaxBytes+1), api.ErrLimit)
	checkStyleError(t, filled(strings.Repeat("a:b;", 257), api.MaxBytes), api.ErrSheet)
	checkStyleError(t, filled(strings.Repeat("a:b;", 257), api.MaxBytes+1), api.ErrLimit)
}

func checkRules(t *testing.T, s string, n int) {
	t.Helper()
	if l, e := cssparse.Parse(s); e != api.OK || len(l) != n {
		t.Errorf("Parse(%.60q) is %d rules, %d, not %d rules", s, len(l), e, n)
	}
}

func TestMaxRulesOfRules(t *testing.T) { // P8.1
	checkRules(t, strings.Repeat("a{}", 256), 256)
	checkParseError(t, strings.Repeat("a{}", 257), api.ErrSheet)
	checkParseError(t, strings.Repeat("a{}", 256)+"b{", api.ErrSheet)
	checkRules(t, strings.Repeat("a{}", 256)+"b", 256)
	checkParseError(t, strings.Repeat("a{}", 21000), api.ErrSheet)
	// those that are dropped do not count, at-rules neither
	for _, none := range []string{"{}", "a..b{}", "@x;", "@x{a{}}", "a,{}", "1{b:c}"} {
		checkRules(t, strings.Repeat("a{}"+none, 256), 256)
		checkRules(t, strings.Repeat(none, 600)+strings.Repeat("a{}", 256)+strings.Repeat(none, 600), 256)
		checkParseError(t, strings.Repeat(none+"a{}", 257), api.ErrSheet)
		checkRules(t, strings.Repeat(none, 600), 0)
	}
}

func TestMaxRulesOfSelectors(t *testing.T) { // P8.1
	many := func(n int) string { return strings.Repeat("a,", n-1) + "b" }
	for _, n := range []int{1, 2, 255, 256} {
		if l, e := cssparse.Parse("c{}" + many(n) + "{d:e}"); e != api.OK || len(l) != 2 || len(l[1].Selectors) != n || len(l[1].Decls) != 1 {
			t.Errorf("%d selectors: %d rules, %d", n, len(l), e)
		}
	}
	checkParseError(t, many(257)+"{}", api.ErrSheet)
	checkParseError(t, "c{d:e}"+many(257)+"{d:e}f{}", api.ErrSheet)
	checkParseError(t, many(20000)+"{}", api.ErrSheet)
	// of a rule that is dropped, or of none
	checkParse(t, many(257)+",{}c{}", "c{}")
	checkParse(t, "..d,"+many(257)+"{}c{}", "c{}")
	checkParse(t, "@x "+many(257)+"{}c{}", "c{}")
	checkParse(t, "c{}"+many(257), "c{}")
	// each rule by itself
	checkRules(t, strings.Repeat(many(100)+"{}", 200), 200)
	checkRules(t, many(256)+"{}"+many(256)+"{}", 2)
}

func TestMaxRulesOfCompounds(t *testing.T) { // P8.1
	for _, joint := range []string{" ", ">", "+", " /**/ "} {
		many := func(n int) string { return strings.Repeat("a"+joint, n-1) + "b" }
		for _, n := range []int{1, 2, 255, 256} {
			if l, e := cssparse.Parse("c," + many(n) + "{d:e}"); e != api.OK || len(l) != 1 || len(l[0].Selectors) != 2 || len(l[0].Selectors[1]) != n {
				t.Errorf("%d compounds: %d rules, %d", n, len(l), e)
			}
		}
		checkParseError(t, many(257)+"{}", api.ErrSheet)
		checkParseError(t, "c,"+many(257)+",d{}", api.ErrSheet)
		checkParseError(t, "c{}d{}e,f,"+many(257)+"{}g{}", api.ErrSheet)
		checkParse(t, many(257)+",{}c{}", "c{}")
		checkParse(t, many(257)+joint+"..{}c{}", "c{}")
		checkRules(t, many(200)+","+many(200)+"{}"+many(256)+"{}", 2)
	}
	// what one compound has does not count
	for _, part := range []string{".a", "#a", "[a]", "[a=b]"} {
		checkRules(t, strings.Repeat(part, 1000)+"{}", 1)
	}
}

func TestMaxRulesOfDeclarations(t *testing.T) { // P8.1, P8.2
	many := func(n int) string { return strings.Repeat("a:b;", n-1) + "c:d" }
	for _, n := range []int{1, 2, 255, 256} {
		if l, e := cssparse.Style(many(n)); e != api.OK || len(l) != n {
			t.Errorf("Style: %d declarations: %d, %d", n, len(l), e)
		}
		if l, e := cssparse.Parse("x{" + many(n) + "}y{}"); e != api.OK || len(l) != 2 || len(l[0].Decls) != n {
			t.Errorf("Parse: %d declarations: %d rules, %d", n, len(l), e)
		}
	}
	for _, n := range []int{257, 258, 512, 16000} {
		checkStyleError(t, many(n), api.ErrSheet)
		checkParseError(t, "x{"+many(n)+"}", api.ErrSheet)
		checkParseError(t, "x{}y{"+many(n)+"}z{}", api.ErrSheet)
		checkParseError(t, "x{"+many(n), api.ErrSheet)
		checkParse(t, "..x{"+many(n)+"}y{}", "y{}")
		checkParse(t, "@x{"+many(n)+"}y{}", "y{}")
	}
	// what is none does not count
	for _, none := range []string{";", "e;", "e:;", "@e;", "@e{}", "e:);", ":f;", "e:\"\n;", "e:!important;"} {
		s := strings.Repeat(none, 300) + strings.ReplaceAll(many(256), ";", ";"+none)
		if l, e := cssparse.Style(s); e != api.OK || len(l) != 256 {
			t.Errorf("%q: %d declarations, %d", none, len(l), e)
		}
		if none == "e:);" {
			s = strings.ReplaceAll(s, ")", "]")
		}
		checkRules(t, "x{"+s+"}", 1)
		checkStyleError(t, none+many(257), api.ErrSheet)
	}
	// each rule by itself
	checkRules(t, "x{"+many(200)+"}y{"+many(200)+"}z{"+many(256)+"}", 3)
}

func TestSelectHasNoSuchLimit(t *testing.T) { // P8.2
	if l, ok := cssparse.Select(strings.Repeat("a,", 299) + "a"); !ok || len(l) != 300 {
		t.Errorf("300 selectors: %d, %t", len(l), ok)
	}
	if l, ok := cssparse.Select(strings.Repeat("a ", 299) + "a"); !ok || len(l) != 1 || len(l[0]) != 300 {
		t.Errorf("300 compounds: %d, %t", len(l), ok)
	}
}

func TestLongTexts(t *testing.T) { // P8.1, P8.2: each call ends, and soon
	const n = api.MaxBytes
	for _, part := range []string{"a", "{", "}", "(", ")", "[", "]", "f(", "a{", "a:", "a:b;", "[a", "[a]", ".a", "a,", "a ", ",", ";", ":", "@", "@a", "@a{", "@a;", "!", "\"\n", "a>", "({", "({[", "(})", "{(}", "a{b:(", "/**/ ", " /**/", "<!--", "-->", "#a", "!important "} {
		for _, ahead := range []string{"", "a{b:"} {
			s := ahead + strings.Repeat(part, (n-len(ahead))/len(part))
			cssparse.Parse(s)
			cssparse.Style(s)
			cssparse.Select(s)
		}
	}
}
