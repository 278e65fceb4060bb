package cssparse_test

import (
	"slices"
	"testing"

	"selvedge/api"
	"selvedge/cssparse"
	"selvedge/csstok"
)

func parsed(t *testing.T, s string) []string {
	t.Helper()
	l, e := cssparse.Parse(s)
	if e != api.OK {
		t.Fatalf("Parse(%q): %d", s, e)
	}
	return showRules(l)
}

func styled(t *testing.T, s string) []string {
	t.Helper()
	l, e := cssparse.Style(s)
	if e != api.OK {
		t.Fatalf("Style(%q): %d", s, e)
	}
	return showDecls(l)
}

func TestWrongRulesChangeNoOther(t *testing.T) { // P8.4
	right := []string{"a{b:c}", "d , e{f:g;h:(i)!important}", ".j>k{}", " #l [m = n]{ o : p ; ; }", "q{r:{s:t}}"}
	wrong := []string{"{}", "a..b{c:d}", "@x;", "@x{y{z:z}}", "a,{b:c}", "1{}", "){}", "a:b{c:d}", ";{a:b}", "a{}", "a{b}", "a{b:)}", "@x a{b:c}", "(;){}", "a{b:c;d:\"e\n}", "a b{@x;c}", "a{b:c;@x{d:e}f}"}
	for _, a := range right {
		for _, w := range wrong {
			for _, b := range right {
				want := slices.Concat(parsed(t, a), parsed(t, w), parsed(t, b))
				if got := parsed(t, a+w+b); !slices.Equal(got, want) {
					t.Errorf("Parse(%q) is %q, not %q", a+w+b, got, want)
				}
			}
		}
	}
}

func TestWrongDeclarationsChangeNoOther(t *testing.T) { // P8.4
	right := []string{"a:b;", " C : d ! important ;", "e:(;){;}[;] f(;);", "g:h i/**/j;;"}
	wrong := []string{"", ";", "a;", "a:;", ":b;", "a b;", "a:);", "a:(]);", "a:\"b\n;", "@x;", "@x{a:b;c:d}", "1:2;", "{a:b};", "a:!important;", "a{b:c};", "<!-- a:b;", "@x (;){}", "a:b!;"}
	for _, a := range right {
		for _, w := range wrong {
			for _, b := range right {
				want := slices.Concat(styled(t, a), styled(t, w), styled(t, b))
				if got := styled(t, a+w+b); !slices.Equal(got, want) {
					t.Errorf("Style(%q) is %q, not %q", a+w+b, got, want)
				}
			}
		}
	}
}

// endsWith: is a text's last piece, not within another one, that of this sign, and closed?
func endsWith(s, sign string) bool {
	nodes, _, _ := nested(csstok.Tokens(s), "none")
	if len(nodes) == 0 {
		return false
	}
	last := nodes[len(nodes)-1]
	return last.token == csstok.Token{Kind: csstok.Sign, Value: sign} && (sign != "{" || last.closed != nil)
}

func TestWhatStandsBehind(t *testing.T) { // P8.4: behind a block, behind a ;, as if it stood alone
	m := newMaker(84, "", "", " ", "\n", "/**/", " /**/ ")
	random := func() string {
		if m.Intn(2) == 0 {
			return m.sheet()
		}
		s := ""
		for range m.Intn(10) {
			s += m.pick(tellingParts...)
		}
		return s
	}
	blocks, semicolons := 0, 0
	for range 10000 {
		a, b := random(), random()
		if s := a + "{}"; endsWith(s, "{") {
			blocks++
			if got, want := parsed(t, s+b), append(parsed(t, s), parsed(t, b)...); !slices.Equal(got, want) {
				t.Fatalf("Parse(%q) is %q, not %q", s+b, got, want)
			}
		}
		if s := a + ";"; endsWith(s, ";") {
			semicolons++
			if got, want := styled(t, s+b), append(styled(t, s), styled(t, b)...); !slices.Equal(got, want) {
				t.Fatalf("Style(%q) is %q, not %q", s+b, got, want)
			}
		}
	}
	if blocks < 3000 || semicolons < 3000 {
		t.Errorf("only %d and %d times", blocks, semicolons)
	}
}

// commented tells tokens as a text with comments between them; not behind a Bad nor a \, which a line's end has to follow at once, and not beside White, if not beside.
func commented(l []csstok.Token, beside bool) string {
	s := ""
	for i, x := range l {
		if i > 0 {
			before := l[i-1]
			switch {
			case before.Kind == csstok.Bad || before.Kind == csstok.Delim && before.Value == `\`:
				s += "\n"
				if x.Kind == csstok.White {
					continue
				}
			case !beside && (x.Kind == csstok.White || before.Kind == csstok.White):
			default:
				s += "/* ;}{:,!.> */"
			}
		}
		s += csstok.Print(l[i : i+1])
	}
	return s
}

func TestCommentsChangeNothing(t *testing.T) { // P8.4
	m := newMaker(85, "", "", " ", "\n")
	rules := 0
	for range 5000 {
		s := m.sheet()
		for _, beside := range []bool{false, true} {
			with := commented(csstok.Tokens(s), beside)
			got, want := parsed(t, with), parsed(t, s)
			if !slices.Equal(got, want) {
				t.Fatalf("Parse(%q) is %q, not %q", with, got, want)
			}
			if got, want := styled(t, with), styled(t, s); !slices.Equal(got, want) {
				t.Fatalf("Style(%q) is %q, not %q", with, got, want)
			}
			a, ok := cssparse.Select(with)
			if b, is := cssparse.Select(s); ok != is || showRow(a) != showRow(b) {
				t.Fatalf("Select(%q) is %q, not %q", with, showRow(a), showRow(b))
			}
			rules += len(got)
		}
	}
	if rules < 5000 {
		t.Errorf("only %d rules", rules)
	}
}

func TestCommentsAmidWhite(t *testing.T) { // P8.4
	for _, x := range []struct{ plain, with string }{
		{"a{b:c}", " /**/ a /**/ { /**/ b /**/ : /**/ c /**/ } /**/ "},
		{"a b>c+d,e{f:g}", "a /**/ b /**/ > /**/ c /**/ + /**/ d /**/ , /**/ e /**/ { f:g}"},
		{"a[b=c]{}", "a[ /**/ b /**/ = /**/ c /**/ ]{}"},
		{"a{b:c!important;d:e}", "a{b:c /**/ ! /**/ important /**/ ; /**/ d:e}"},
		{"@x y;a{@z;b:c}", "@x /**/ y /**/ ; /**/ a{ /**/ @z /**/ ; /**/ b:c}"},
	} {
		if got, want := parsed(t, x.with), parsed(t, x.plain); !slices.Equal(got, want) || len(want) != 1 {
			t.Errorf("Parse(%q) is %q, not %q", x.with, got, want)
		}
	}
}
