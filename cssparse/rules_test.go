package cssparse_test

import "testing"

func TestBetweenRules(t *testing.T) { // P8.1, P8.4
	for _, between := range []string{
		"", " ", "\n\t", "\r\f", "<!--", "-->", "<!---->", " <!-- --> ", "/**/", " /**/ ", "/* a{b:c} */", "<!--/**/-->",
		"@x;", "@x y z;", "@x{}", "@x{a{b:c}}", "@media y{a{b:c}d{e:f}}", "@x y{;}", "@x(;);", "@x({);}) y;", "@x[{}];", "@x f({}){}", "@x({}){}", "@x]);", "@x a:b;", "@x \"{\";", "@x,#y.z>1%;", "@x<!-- -->;", "@x @y;", "@x}{}", "@x}a{b:c}",
		" @x;@y{} ", "@x{@y{z:z}}", "@x{}@y;", "@x;@y;", "@\\78 ;", "@x{(});}",
	} {
		checkParse(t, "a{b:c}"+between+"d{e:f}", "a{b:c;}", "d{e:f;}")
		checkParse(t, "a{b:c}"+between, "a{b:c;}")
		checkParse(t, between+"d{e:f}", "d{e:f;}")
		checkParse(t, between)
	}
	// what stands behind the at-rule's end is none of it
	checkParse(t, "@x{};a{b:c}d{e:f}", "d{e:f;}")
	checkParse(t, "@x{}}a{b:c}d{e:f}", "d{e:f;}")
	checkParse(t, "@x;{a{b:c}}d{e:f}", "d{e:f;}")
}

func TestAtRulesThatEndWithTheText(t *testing.T) { // P8.1
	for _, s := range []string{"@x", "@x y", "@x d{e:f", "@x{d{e:f}", "@x(;d{e:f}", "@x[;]{d{e:f}(}", "@x f(} d{e:f}", "@x (] ;) }", "@x{(}d{e:f}"} {
		checkParse(t, s)
		checkParse(t, "a{b:c}"+s, "a{b:c;}")
	}
}

func TestNoAtRules(t *testing.T) { // P8.1: an At amid a prelude, and what is none
	checkParse(t, "a @x;b{c:d}e{f:g}", "e{f:g;}")
	checkParse(t, "a@x{c:d}e{f:g}", "e{f:g;}")
	checkParse(t, "@ x;b{c:d}e{f:g}", "e{f:g;}")
	checkParse(t, "@1;b{c:d}e{f:g}", "e{f:g;}")
	checkParse(t, "@;b{c:d}e{f:g}", "e{f:g;}")
}

func TestRules(t *testing.T) { // P8.1
	checkParse(t, "a{}", "a{}")
	checkParse(t, "a{;}", "a{}")
	checkParse(t, "a{b}", "a{}")
	checkParse(t, "a{b:c}a{b:c}", "a{b:c;}", "a{b:c;}")
	checkParse(t, "b{b:c}\na{b:c}\nb{d:e}", "b{b:c;}", "a{b:c;}", "b{d:e;}")
	checkParse(t, "a , b{c:d}", "a,b{c:d;}")
	checkParse(t, " a {b:c} ", "a{b:c;}")
	checkParse(t, "a/**/{b:c}", "a{b:c;}")
	// blocks and sheets that the text ends
	checkParse(t, "a{", "a{}")
	checkParse(t, "a{b:c", "a{b:c;}")
	checkParse(t, "a{b:c;d", "a{b:c;}")
	checkParse(t, "a{b:c;d:", "a{b:c;}")
	checkParse(t, "a{b:c d{e:f}", `a{b:"c d{e:f}";}`)
	checkParse(t, "a{b:c}d", "a{b:c;}")
	checkParse(t, "a{b:c}d,", "a{b:c;}")
	checkParse(t, "a{b:c}d(e{f:g}", "a{b:c;}")
	checkParse(t, "a{b:c}[d{f:g}", "a{b:c;}")
	checkParse(t, "a")
}

func TestRulesThatAreDropped(t *testing.T) { // P8.1, P8.4
	for _, s := range []string{
		"{b:c}", ";{b:c}", "}{b:c}", "){b:c}", "]{b:c}", "; a{b:c}", "} a{b:c}", "a;{b:c}", "a}{b:c}", "a){b:c}", "a]{b:c}", "a,{b:c}", ",a{b:c}", "a,,b{c:d}", "a:b{c:d}", "a::b{c:d}", "a:not(b){c:d}",
		"(a){b:c}", "({}){b:c}", "(;{}){b:c}", "[{}]{b:c}", "f({}){b:c}", "a(b{c:d}){e:f}", "({)}){d:e}", "1{b:c}", "\"a\"{b:c}", "\"a\n{b:c}", "1%{b:c}", "1px{b:c}", "!{b:c}", "a!important{b:c}", "<!--{b:c}", "a<!--{b:c}", "a -->{b:c}", "a @b{c:d}",
		"&{b:c}", "|a{b:c}", "*|a{b:c}", "a~b{c:d}", "a||b{c:d}", "> a{b:c}", "a >{b:c}", "a..b{c:d}", "#1{b:c}", "a,{b:{c:d};}", "a,{;}", "{{}}", "{(})}", "a:hover{b:c;@x{}}",
	} {
		checkParse(t, s)
		checkParse(t, s+"y{z:z}", "y{z:z;}")
		checkParse(t, "w{x:x}"+s+" y{z:z}", "w{x:x;}", "y{z:z;}")
		checkParse(t, "w{x:x} "+s+s+"y{z:z}", "w{x:x;}", "y{z:z;}")
	}
	// what stands between two blocks is a prelude, whatever it is
	checkParse(t, "a{b:c};d{e:f}g{h:i}", "a{b:c;}", "g{h:i;}")
	checkParse(t, "a{b:c}}d{e:f}g{h:i}", "a{b:c;}", "g{h:i;}")
	checkParse(t, "a{b:({})}}g{h:i}", `a{b:"({})";}`)
	checkParse(t, "a{b}{c:d}g{h:i}", "a{}", "g{h:i;}")
	checkParse(t, "({){b:c}){d:e}g{h:i}")
}

func TestPieces(t *testing.T) { // P8.1: which sign closes which piece
	for _, x := range []struct {
		s    string
		want []string
	}{
		{"a{b:()}d{}", []string{`a{b:"()";}`, "d{}"}},
		{"a{b:{}}d{}", []string{`a{b:"{}";}`, "d{}"}},
		{"a{b:[]}d{}", []string{`a{b:"[]";}`, "d{}"}},
		{"a{b:f()}d{}", []string{`a{b:"f()";}`, "d{}"}},
		{"a{b:({[f((x))]})}d{}", []string{`a{b:"({[f((x))]})";}`, "d{}"}},
		{"a{b:{c:d};e:f}d{}", []string{`a{b:"{c:d}";e:f;}`, "d{}"}},
		{"a{b:(;);c:[;];d:{;};e:f(;)}d{}", []string{`a{b:"(;)";c:"[;]";d:"{;}";e:"f(;)";}`, "d{}"}},
		{"a{b:({;[;f(;);]})}d{}", []string{`a{b:"({;[;f(;);]})";}`, "d{}"}},
		// up to the end
		{"a{b:(}d{}", []string{"a{}"}},
		{"a{b:(", []string{`a{b:"(";}`}},
		{"a{b:(;c:d", []string{`a{b:"(;c:d";}`}},
		{"a{b:[;c:d", []string{`a{b:"[;c:d";}`}},
		{"a{b:f(;c:d", []string{`a{b:"f(;c:d";}`}},
		{"a{b:{;c:d", []string{`a{b:"{;c:d";}`}},
		{"a{b:{c}", []string{`a{b:"{c}";}`}}, // that } is another one's
		{"a{b:{c}}", []string{`a{b:"{c}";}`}},
		{"a{b:{c};d:{e}", []string{`a{b:"{c}";d:"{e}";}`}},
		{"a{b:c;({}", []string{"a{b:c;}"}},
		// which close none
		{"a{b:)}d{}", []string{"a{}", "d{}"}},
		{"a{b:]}d{}", []string{"a{}", "d{}"}},
		{"a{b:);e:f}d{}", []string{"a{e:f;}", "d{}"}},
		{"a{b:(]);e:f}d{}", []string{"a{e:f;}", "d{}"}},
		{"a{b:(});e:f}d{}", []string{"a{e:f;}", "d{}"}},
		{"a{b:[)];e:f}d{}", []string{"a{e:f;}", "d{}"}},
		{"a{b:{)};e:f}d{}", []string{"a{e:f;}", "d{}"}},
		{"a{b:f(]);e:f}d{}", []string{"a{e:f;}", "d{}"}},
		{"a{b:({);e:f}d{}", []string{"a{}"}}, // ); and so on are within {, which d's blocks do not close
		{"a{b:([)];e:f}d{}", []string{"a{}"}},
		{"a{b:(}", []string{"a{}"}},  // that } closes nothing, and is within (
		{"a{b:[)}", []string{"a{}"}}, // likewise
		{"a{b:c;d:(}", []string{"a{b:c;}"}},
		{"a{(};b:c)d:e}f{}", []string{"a{}", "f{}"}},
		{"a{(};b:c);d:e}f{}", []string{"a{d:e;}", "f{}"}},
		{"a{b:\")\"}d{}", []string{`a{b:"\")\"";}`, "d{}"}},
		{"a{b:\"}\";c:'{'}d{}", []string{`a{b:"\"}\"";c:"\"{\"";}`, "d{}"}},
		{"a{b:\\}}d{}", []string{`a{b:"\\7D ";}`, "d{}"}},
		{"a{b:c/*}*/}d{}", []string{"a{b:c;}", "d{}"}},
	} {
		checkParse(t, x.s, x.want...)
	}
}
