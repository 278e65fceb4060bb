package cssparse_test

import (
	"reflect"
	"testing"

	"selvedge/api"
	"selvedge/cssparse"
)

func TestCombinators(t *testing.T) {
	for i, join := range []uint8{cssparse.First, cssparse.Descendant, cssparse.Child, cssparse.Next} {
		if int(join) != i {
			t.Errorf("combinator %d is %d", i, join)
		}
	}
}

func TestTheChaptersExamples(t *testing.T) { // P8.1
	checkParse(t, `P > .a, #b[dir="rtl"]{DIRECTION : rtl !Important; x}`, "p>.a,#b[dir=rtl]{direction:rtl!;}")
	checkParse(t, "@media x{a{b:c}} a b+c{d:e}; f{g:h}", "a b+c{d:e;}")
	checkParse(t, "a{b:c;;d e;f:(;);g:};h{i:j}", `a{b:c;f:"(;)";}`)
	checkParse(t, `a..b{c:d} e{f:"x`, `e{f:"\"x\"";}`)
}

func TestWholeAnswers(t *testing.T) { // P8.1, P8.2: each field, those that have no meaning there too
	l, e := cssparse.Parse(`A#i.c[D][E="F"]>*+b C{G:h 1PX!important;i:"j"}k{}`)
	want := []cssparse.Rule{
		{
			Selectors: []cssparse.Selector{{
				{Join: cssparse.First, Type: "a", IDs: []string{"i"}, Classes: []string{"c"}, Tests: []cssparse.Test{{Name: "d"}, {Name: "e", Value: "F", Has: true}}},
				{Join: cssparse.Child},
				{Join: cssparse.Next, Type: "b"},
				{Join: cssparse.Descendant, Type: "c"},
			}},
			Decls: []cssparse.Decl{{Name: "g", Value: "h 1PX", Important: true}, {Name: "i", Value: `"j"`}},
		},
		{Selectors: []cssparse.Selector{{{Type: "k"}}}},
	}
	if e != api.OK || !reflect.DeepEqual(l, want) {
		t.Errorf("the rules are %+v, %d, not %+v", l, e, want)
	}
	decls, e := cssparse.Style("A:b;c:D!IMPORTANT")
	if wanted := []cssparse.Decl{{Name: "a", Value: "b"}, {Name: "c", Value: "D", Important: true}}; e != api.OK || !reflect.DeepEqual(decls, wanted) {
		t.Errorf("the declarations are %+v, %d, not %+v", decls, e, wanted)
	}
	row, ok := cssparse.Select("[a],.B #C")
	if wanted := []cssparse.Selector{{{Tests: []cssparse.Test{{Name: "a"}}}}, {{Classes: []string{"B"}}, {Join: cssparse.Descendant, IDs: []string{"C"}}}}; !ok || !reflect.DeepEqual(row, wanted) {
		t.Errorf("the row is %+v, %t, not %+v", row, ok, wanted)
	}
}

func TestNothing(t *testing.T) { // P8.1, P8.2
	for _, s := range []string{"", " ", "/**/", "\n/**/ ", "<!--", "-->", " <!-- --> /* a", "@x", "@x;", "@x{a{b:c}}", "@x{"} {
		checkParse(t, s)
		checkSelect(t, s, "")
	}
	for _, s := range []string{"", " ", ";", " ; ;; ", "/**/;/**/", "@x", "@x;", "@x{a:b}", " @x{a:b", "<!-- a:b", "-->"} {
		checkStyle(t, s)
	}
}
