package cssparse_test

import (
	"regexp"
	"slices"
	"strconv"
	"strings"
	"testing"

	"selvedge/api"
	"selvedge/cssparse"
)

var plain = regexp.MustCompile(`^[0-9A-Za-z_-]+$`)

func showName(s string) string {
	if plain.MatchString(s) {
		return s
	}
	return strconv.Quote(s)
}

func showCompound(c cssparse.Compound) string {
	s := ""
	if c.Type != "" {
		s = showName(c.Type)
	}
	for _, x := range c.IDs {
		s += "#" + showName(x)
	}
	for _, x := range c.Classes {
		s += "." + showName(x)
	}
	for _, x := range c.Tests {
		s += "[" + showName(x.Name)
		if x.Has {
			s += "=" + showName(x.Value)
		} else if x.Value != "" {
			s += "?" + showName(x.Value)
		}
		s += "]"
	}
	if s == "" {
		return "*"
	}
	return s
}

// showSelector puts ahead of each compound its Join: nothing of First, a blank, > or +.
func showSelector(l cssparse.Selector) string {
	s := ""
	for _, c := range l {
		switch c.Join {
		case cssparse.First:
		case cssparse.Descendant:
			s += " "
		case cssparse.Child:
			s += ">"
		case cssparse.Next:
			s += "+"
		default:
			s += "?" + strconv.Itoa(int(c.Join)) + "?"
		}
		s += showCompound(c)
	}
	return s
}

func showRow(l []cssparse.Selector) string {
	var parts []string
	for _, s := range l {
		parts = append(parts, showSelector(s))
	}
	return strings.Join(parts, ",")
}

func showDecl(d cssparse.Decl) string {
	s := showName(d.Name) + ":" + showName(d.Value)
	if d.Important {
		s += "!"
	}
	return s
}

func showDecls(l []cssparse.Decl) []string {
	var parts []string
	for _, d := range l {
		parts = append(parts, showDecl(d))
	}
	return parts
}

// showRules tells each rule as a text, with ; behind each of its declarations.
func showRules(l []cssparse.Rule) []string {
	var parts []string
	for _, r := range l {
		s := showRow(r.Selectors) + "{"
		for _, d := range showDecls(r.Decls) {
			s += d + ";"
		}
		parts = append(parts, s+"}")
	}
	return parts
}

// checkParse asks for the rules of a sheet; each of want has just one of them.
func checkParse(t *testing.T, s string, want ...string) {
	t.Helper()
	l, e := cssparse.Parse(s)
	if got := showRules(l); e != api.OK || !slices.Equal(got, want) {
		t.Errorf("Parse(%.300q) is %.300q, %d, not %.300q", s, got, e, want)
	}
}

// checkStyle asks for declarations, in a style attribute and in a rule.
func checkStyle(t *testing.T, s string, want ...string) {
	t.Helper()
	l, e := cssparse.Style(s)
	if got := showDecls(l); e != api.OK || !slices.Equal(got, want) {
		t.Errorf("Style(%.300q) is %.300q, %d, not %.300q", s, got, e, want)
	}
}

// checkBoth asks for declarations that are the same in a block; nothing that s opens or closes reaches out of it.
func checkBoth(t *testing.T, s string, want ...string) {
	t.Helper()
	checkStyle(t, s, want...)
	block := "{"
	for _, d := range want {
		block += d + ";"
	}
	checkParse(t, "x{"+s+"}", "x"+block+"}")
	checkParse(t, "x{"+s+"}y{z:z}", "x"+block+"}", "y{z:z;}")
}

// checkSelect asks for a row of selectors, as Select tells it and as a prelude; want is empty, if it is none.
func checkSelect(t *testing.T, s, want string) {
	t.Helper()
	l, ok := cssparse.Select(s)
	if got := showRow(l); ok != (want != "") || got != want || !ok && l != nil {
		t.Errorf("Select(%.300q) is %.300q, %t, not %.300q", s, got, ok, want)
	}
}

// checkRow asks for a row of selectors and for a rule with that prelude: s closes all that it opens, and does not begin with what is passed over.
func checkRow(t *testing.T, s, want string) {
	t.Helper()
	checkSelect(t, s, want)
	if want == "" {
		checkParse(t, s+"{a:b}y{z:z}", "y{z:z;}")
	} else {
		checkParse(t, s+"{a:b}y{z:z}", want+"{a:b;}", "y{z:z;}")
	}
}
