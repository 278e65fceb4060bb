package cssparse_test

import (
	"strings"
	"testing"
)

func TestBetweenDeclarations(t *testing.T) { // P8.1, P8.2
	for _, between := range []string{";", ";;", " ; ", "; ;\n;", "/**/;/**/", ";@x;", ";@x y;", ";@x{}", "; @x{a:b;c:d} ", ";@x y{;};", ";@x(;);", ";@x({});", ";@x[{}] f({}) {}", ";@x y;@z{}", ";@x \";\";", ";@x/*;*/;", ";x;", ";x y;", ";x:;", ";:y;", ";1:y;", ";x{};", ";x{y:z};", ";{y:z};", ";(;);", ";<!--;", ";<!-- x:y;", ";--> x:y;", ";x @y{};", ";@x:y;", ";#x:y;", ";!;", ";,;"} {
		checkBoth(t, "a:b"+between+"c:d", "a:b", "c:d")
		checkBoth(t, between+"c:d", "c:d")
		checkBoth(t, "a:b"+between, "a:b")
	}
	checkBoth(t, "c:d;a:b;c:e", "c:d", "a:b", "c:e")
	checkBoth(t, "a:b;a:b", "a:b", "a:b")
	checkBoth(t, "@x{}c:d", "c:d")
	checkBoth(t, "@x{} {} c:d;e:f", "e:f") // behind the at-rule's block a declaration begins, which is wrong
	checkBoth(t, "@x c:d")
	checkBoth(t, "a:b @x;c:d", `a:"b @x"`, "c:d")
	checkBoth(t, "a:b @x{c:d};e:f", `a:"b @x{c:d}"`, "e:f")
	checkBoth(t, "x{y:z}c:d;e:f", "e:f")
	checkBoth(t, "x {y:z} c:d")
}

func TestDeclarationsThatLackSomething(t *testing.T) { // P8.1, P8.2, P8.4
	for _, s := range []string{
		"", " ", "a", "a ", "a b", "a b:c", ":", ":b", " : b", "a:", "a: ", "a :", " a : ", "a:/**/", "a b", "a;b", "1:b", "1a:b", "1%:b", "\"a\":b", "'a':b", "#a:b", ".a:b", "*a:b", "*:b", "$a:b", "a(:b)", "a():b", "(a):b", "[a]:b", "{a:b}", "a{:b}", "a,c:b", "a=b", "-->a:b", "<!-- a:b", "! a:b",
	} {
		checkBoth(t, s)
		checkBoth(t, s+";c:d", "c:d")
		checkBoth(t, "e:f;"+s+";c:d", "e:f", "c:d")
		checkBoth(t, "e:f;"+s, "e:f")
	}
	checkBoth(t, "@a:b")
	checkBoth(t, "@a:b;c:d", "c:d")
}

func TestWhiteInDeclarations(t *testing.T) { // P8.1, P8.2
	for _, w := range []string{"", " ", "\n", "\t\r\n", "/**/", " /**/", " /**/ ", " /**/ /**/ ", "/* x */ /* y */"} {
		checkBoth(t, w+"a"+w+":"+w+"b"+w, "a:b")
		checkBoth(t, w+"a"+w+":"+w+"b"+w+";"+w+"c"+w+":"+w+"d"+w+";"+w, "a:b", "c:d")
		checkBoth(t, w+"a"+w+":"+w+"b"+w+"!"+w+"important"+w, "a:b!")
		checkBoth(t, "a:"+w+"!"+w+"important"+w)
		checkBoth(t, "a:"+w)
		checkBoth(t, w+"a"+w)
		checkBoth(t, w+":"+w+"b")
	}
	checkBoth(t, "a:b c", `a:"b c"`)
	checkBoth(t, "a: b\n\tc ", `a:"b c"`)
	checkBoth(t, "a:b/**/c", `a:"b/**/c"`)
	checkBoth(t, "a:b /**/c", `a:"b c"`)
	checkBoth(t, "a:( b )", `a:"( b )"`)
	checkBoth(t, "a:b /**/ c", `a:"b  c"`) // two tokens of White, as chapter 7 has them, are printed as two blanks
}

func TestNamesAndValues(t *testing.T) { // P8.1, P8.2
	checkBoth(t, "DIRECTION:RTL", "direction:RTL")
	checkBoth(t, "AZaz-09_:x", "azaz-09_:x")
	checkBoth(t, "\u00C4\u212A\u0130B:x", "\"\u00C4\u212A\u0130b\":x") // only A to Z have small letters here
	checkBoth(t, "\\41 b:x", "ab:x")
	checkBoth(t, "\\31 b:\\31 b", `1b:"\\31 b"`)
	checkBoth(t, "--X:y", "--x:y")
	checkBoth(t, "-:y")
	checkBoth(t, "a:b,c", `a:"b,c"`)
	checkBoth(t, "a:b:c", `a:"b:c"`)
	checkBoth(t, "a:'b'", `a:"\"b\""`)
}

func TestValuesOfEachToken(t *testing.T) { // P8.1, P8.2
	for s, want := range map[string]string{
		"b": "b", "f()": `"f()"`, "@b": `"@b"`, "#b": `"#b"`, "#1": `"#1"`, "'b'": `"\"b\""`, "1": "1", "+.5": `"+.5"`, "1%": `"1%"`, "1PX": "1PX", ",": `","`, ":": `":"`, "!": `"!"`, "*": `"*"`, "<!--": `"<!--"`, "-->": `"-->"`, "\"\"": `"\"\""`, "{}": `"{}"`, "[]": `"[]"`, "()": `"()"`,
	} {
		checkBoth(t, "a:"+s, "a:"+want)
		checkBoth(t, "a: "+s+" ;c:d", "a:"+want, "c:d")
	}
	checkBoth(t, "a:\\\n", `a:"\\"`)
	checkBoth(t, "a:\\\n;c:d", `a:"\\"`, "c:d")
	// that the end of the text ends
	checkStyle(t, "a:'b", `a:"\"b\""`)
	checkStyle(t, "a:'b;c:d", `a:"\"b;c:d\""`)
	checkStyle(t, "a:f(b", `a:"f(b"`)
	checkStyle(t, "a:[(b;", `a:"[(b;"`)
	checkStyle(t, "a:b/*", "a:b")
	checkStyle(t, "a:b\\", "a:\"b\uFFFD\"")
	checkParse(t, "x{a:'b}y{z:z}", `x{a:"\"b}y{z:z}\"";}`)
}

func TestImportant(t *testing.T) { // P8.1, P8.2
	for _, word := range []string{"important", "IMPORTANT", "Important", "imPORTant", "\\69mportant", "import\\41 nt"} {
		for _, w := range []string{"", " ", "\n ", "/**/", " /**/ "} {
			for _, v := range []string{"", " ", " /**/ "} {
				checkBoth(t, "a:b"+v+"!"+w+word+v, "a:b!")
				checkBoth(t, "a:b"+v+"!"+w+word+v+";c:d", "a:b!", "c:d")
				checkBoth(t, "a:b c"+v+"!"+w+word, `a:"b c"!`)
				checkBoth(t, "a:"+v+"!"+w+word+v)
				checkBoth(t, "a:"+v+"!"+w+word+v+";c:d", "c:d")
			}
		}
	}
	// no such end
	checkBoth(t, "a:important", "a:important")
	checkBoth(t, "a:b important", `a:"b important"`)
	checkBoth(t, "a:b!", `a:"b/**/!"`)
	checkBoth(t, "a:b!importan", `a:"b/**/!/**/importan"`)
	checkBoth(t, "a:b!importants", `a:"b/**/!/**/importants"`)
	checkBoth(t, "a:b!important c", `a:"b/**/!/**/important c"`)
	checkBoth(t, "a:b!important,", `a:"b/**/!/**/important,"`)
	checkBoth(t, "a:b!important()", `a:"b/**/!/**/important()"`)
	checkBoth(t, "a:b!\"important\"", `a:"b/**/!\"important\""`)
	checkBoth(t, "a:b!#important", `a:"b/**/!#important"`)
	checkBoth(t, "a:b!@important", `a:"b/**/!@important"`)
	checkBoth(t, "a:b\\!important", `a:"b\\21 important"`)
	checkBoth(t, "a:b?important", `a:"b/**/?/**/important"`)
	checkBoth(t, "a:b!x important", `a:"b/**/!/**/x important"`)
	checkBoth(t, "a:b!\u0131mportant", "a:\"b/**/!/**/\u0131mportant\"")
	checkBoth(t, "a:b!\u0130mportant", "a:\"b/**/!/**/\u0130mportant\"")
	checkBoth(t, "a:(b!important)", `a:"(b/**/!/**/important)"`)
	checkBoth(t, "a:(b)!important", `a:"(b)"!`)
	checkBoth(t, "a!important:b")
	// more than one
	checkBoth(t, "a:b!important!important", `a:"b/**/!/**/important"!`)
	checkBoth(t, "a:!important!important", `a:"!/**/important"!`)
	checkBoth(t, "a:!!important", `a:"!"!`)
	checkBoth(t, "a:b ! important ! important", `a:"b ! important"!`)
	// the last tokens of the value, though within a piece that the text ends
	checkStyle(t, "a:(b !important", `a:"(b"!`)
	checkStyle(t, "a:(!important", `a:"("!`)
}

func TestValuesThatAreNone(t *testing.T) { // P8.1, P8.2, P8.4
	for _, s := range []string{"\"x\n", "b \"x\n", "\"x\n b", "('x\n)", "f([{\"\n}])", "\"x\n !important", ")", "]", "b)", ")b", "b ) c", "(])", "[)]", "{)}", "{]}", "f(])", "([)])", "())", "()]", "b!important)", ") !important"} {
		checkBoth(t, "a:"+s)
		checkBoth(t, "e:f;a:"+s+";c:d", "e:f", "c:d")
	}
	for _, s := range []string{"(]", "([)]", "([)", "{)", "f(]"} { // what they open goes on to the end
		checkStyle(t, "a:"+s)
		checkStyle(t, "e:f;a:"+s+";c:d", "e:f")
	}
	for _, s := range []string{"}", "b}", "(})", "[}]", "}b", "{}}", "b } !important"} {
		checkStyle(t, "a:"+s)
		checkStyle(t, "e:f;a:"+s+";c:d", "e:f", "c:d")
	}
	// a Bad ahead of the value, and one in a name's place
	checkBoth(t, "\"a\n:b;c:d", "c:d")
	checkBoth(t, "a\"\n:b;c:d", "c:d")
	// signs that close none elsewhere
	checkStyle(t, "};a:b", "a:b")
	checkStyle(t, ")a:b;c:d", "c:d")
	checkStyle(t, "a]:b;c:d", "c:d")
}

func TestDeepValues(t *testing.T) { // P8.1, P8.2: pieces within many others
	const n = 20000
	for _, x := range []struct{ open, close string }{{"(", ")"}, {"[", "]"}, {"{", "}"}} {
		within := strings.Repeat(x.open, n) + ";" + strings.Repeat(x.close, n)
		checkStyle(t, "a:"+within+";b:c", `a:"`+within+`"`, "b:c")
		checkParse(t, "x{a:"+within+"}y{}", `x{a:"`+within+`";}`, "y{}")
		checkStyle(t, "a:"+within+x.close+";b:c", "b:c")
		checkStyle(t, "a:"+within[:len(within)-1]+";b:c", `a:"`+within[:len(within)-1]+`;b:c"`)
	}
}
