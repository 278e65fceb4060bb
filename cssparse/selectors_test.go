package cssparse_test

import "testing"

func TestCombinatorsInSelectors(t *testing.T) { // P8.1, P8.2
	for _, w := range []string{" ", "\n", "\t \r\n", " /**/", "/**/ ", " /**/ ", " /**/ /* x */ /**/ "} {
		checkRow(t, "a"+w+"b", "a b")
		checkRow(t, "a"+w+"b"+w+"c", "a b c")
		checkRow(t, "a"+w+".b", "a .b")
		checkRow(t, "a"+w+"#b", "a #b")
		checkRow(t, "a"+w+"[b]", "a [b]")
		checkRow(t, "a"+w+"*", "a *")
		checkRow(t, "*"+w+"*", "* *")
	}
	for _, w := range []string{"", " ", "\n", "/**/", " /**/", " /**/ "} {
		for _, v := range []string{"", " ", "\t", "/**/", "/**/ ", " /**/ "} {
			checkRow(t, "a"+w+">"+v+"b", "a>b")
			checkRow(t, "a"+w+"+"+v+"b", "a+b")
			checkRow(t, ".a"+w+">"+v+"#b", ".a>#b")
			checkRow(t, "*"+w+"+"+v+"[b]", "*+[b]")
			checkRow(t, "a"+w+","+v+"b", "a,b")
			checkRow(t, w+"a"+v, "a")
			checkRow(t, w+"a b"+v+","+w+"c>d"+v, "a b,c>d")
			checkRow(t, "a"+w+">"+v+">"+w+"b", "")
			checkRow(t, "a"+w+"+"+v+"+"+w+"b", "")
			checkRow(t, "a"+w+">"+v+"+"+w+"b", "")
			checkRow(t, "a"+w+"+"+v+">"+w+"b", "")
			for _, c := range []string{">", "+", ","} {
				checkRow(t, w+c+v+"a", "")
				checkRow(t, "a"+w+c+v, "")
				checkRow(t, "a"+w+c+v+",b", "")
				checkRow(t, "a,"+w+c+v+"b", "")
				checkRow(t, w+c+v, "")
				checkRow(t, "a"+w+","+v+c+w+"b", "")
			}
		}
	}
	checkRow(t, "a>b+c d", "a>b+c d")
	checkRow(t, "a b + c>d,e,f g", "a b+c>d,e,f g")
	checkRow(t, "a+ +b", "")
	checkRow(t, "a~b", "")
	checkRow(t, "a ~ b", "")
	checkRow(t, "a||b", "")
	checkRow(t, "a-b", "a-b") // a name
	checkRow(t, "a - b", "")
	checkRow(t, "a+1", "")
	checkRow(t, "a +1b", "")
	checkRow(t, "a/**/b", "")
	checkRow(t, "a-->b", "a-->b") // a name again, and its end
}

func TestCompounds(t *testing.T) { // P8.1, P8.2
	for s, want := range map[string]string{
		// each part alone
		"a": "a", "*": "*", "#a": "#a", ".a": ".a", "[a]": "[a]", "[a=b]": "[a=b]", `[a="b"]`: "[a=b]",
		// one behind another
		"a#b": "a#b", "a.b": "a.b", "a[b]": "a[b]", "*#b": "#b", "*.b": ".b", "*[b]": "[b]", "#a#b": "#a#b", ".a.b": ".a.b", "[a][b]": "[a][b]", "#a.b": "#a.b", ".b#a": "#a.b", "[c].b#a": "#a.b[c]", ".b[c]#a": "#a.b[c]",
		"a#b.c[d]": "a#b.c[d]", "a[d].c#b": "a#b.c[d]", "a.c[d=e]#b.f#g[h]": "a#b#g.c.f[d=e][h]", "a.b.a.b": "a.b.a.b", "#b#a#b": "#b#a#b", "[b][a][b]": "[b][a][b]",
		// of several tokens that a comment keeps apart
		"a/**/.b": "a.b", "./**/b": ".b", "a/**/#b": "a#b", "a/**/[b]": "a[b]", "*/**/.b": ".b", "#a/**/#b": "#a#b",
		// letters small or not, escapes
		"AbZ": "abz", "#AbZ": "#AbZ", ".AbZ": ".AbZ", "[AbZ]": "[abz]", "[AbZ=AbZ]": "[abz=AbZ]", "\\41 b": "ab", "\u00C4\u212A": "\"\u00C4\u212A\"", "#\\31 a": "#1a", ".\\31 a": ".1a", "\\*": `"*"`, "\\.a": `".a"`, ".\\#": `."#"`, "-a": "-a", "--": "--", "_": "_",
	} {
		checkRow(t, s, want)
		checkRow(t, "x "+s, "x "+want)
		checkRow(t, s+" x", want+" x")
		checkRow(t, "x>"+s, "x>"+want)
		checkRow(t, s+"+x", want+"+x")
		checkRow(t, "x,"+s+",y", "x,"+want+",y")
	}
}

func TestWhatIsNoCompound(t *testing.T) { // P8.1, P8.2
	for _, s := range []string{
		".", "#", "[]", "x.", "x#", "x[]", "x. y", ". y", "x..y", ".x.", "..", "# x", "#1", "#1a", "x#1", "#-", "#x#1", ".1", ".1a", "x.1a", ".\"x\"", ".#x", ".*", ".[x]", ".f()", ". ", "x .",
		"x*", "**", "#x*", ".x*", "[x]*", "*x", "#x/**/y", ".x/**/y", "[x]y", "*/**/x", "x/**/y", "*#x*", "*.x/**/y",
		"x:y", ":y", "x::y", "x:not(.y)", "x()", "(x)", "f()", "x f()", "x{}", "{}", "x;", ";", "x)", "x]", "x}", "x )", "x]y", "1", "x 1", "x\"y\"", "\"x\"", "x!", "x|y", "|x", "x&", "x@y", "x<!--", "x -->", "x %", "1%", "1px", "x\"\n", "\\\n", "x/**/(", "(", "f(", "x[", "[",
	} {
		checkSelect(t, s, "")
		for _, x := range []string{"y,", "y ", "y>", "y +", " "} {
			checkSelect(t, x+s, "")
		}
		for _, x := range []string{",y", " ,y", ", y z"} {
			checkSelect(t, s+x, "")
		}
	}
	checkSelect(t, "", "")
	checkSelect(t, "@x", "")
	checkSelect(t, "@x y", "")
	checkSelect(t, "<!-- x", "")
}

func TestTests(t *testing.T) { // P8.1, P8.2
	for _, w := range []string{"", " ", "\n\t", "/**/", " /**/ ", "/**/ /**/"} {
		checkRow(t, "["+w+"a"+w+"]", "[a]")
		checkRow(t, "["+w+"A"+w+"="+w+"B"+w+"]", "[a=B]")
		checkRow(t, "["+w+"a"+w+"="+w+"'B c'"+w+"]", `[a="B c"]`)
		checkRow(t, "x["+w+"a"+w+"=b"+w+"].c", "x.c[a=b]")
		checkRow(t, "["+w+"]", "")
		checkRow(t, "["+w+"="+w+"b]", "")
		checkRow(t, "[a"+w+"="+w+"]", "")
	}
	for s, want := range map[string]string{
		`[a=""]`: `[a=""]`, `[a=","]`: `[a=","]`, `[a="]"]`: `[a="]"]`, `[a="\""]`: `[a="\""]`, `[a=\31 ]`: "[a=1]", "[\\31 =b]": "[1=b]", `[a="b c"]`: `[a="b c"]`, "[a='B']": "[a=B]", "[--a=--]": "[--a=--]",
		"[a b]": "", "[a=b c]": "", "[a=b=c]": "", "[a==b]": "", "[a=1]": "", "[a=1px]": "", "[a=1%]": "", "[a=#b]": "", "[a=.b]": "", "[a=*]": "", "[a=f()]": "", "[a=(b)]": "", "[a=b()]": "", "[a=[b]]": "", "[[a]]": "", "[a[b]]": "", "[a~=b]": "", "[a|=b]": "", "[a^=b]": "", "[a$=b]": "", "[a*=b]": "", "[a:b]": "", "[a,b]": "", "[a;]": "", "[a=b,c]": "",
		"['a']": "", "[\"a\"=b]": "", "[1]": "", "[1a]": "", "[*]": "", "[#a]": "", "[.a]": "", "[a=b i]": "", "[a='b' i]": "", "[a)]": "", "[a}]": "", "[a=\"b\n]": "", "[a=@b]": "", "[@a]": "", "[f()]": "", "[<!--]": "", "[a=-->]": "", "[a=!]": "", "[a/**/b]": "",
	} {
		checkRow(t, s, want)
		if want != "" {
			checkRow(t, "x "+s+s+">y", "x "+want+want+">y")
		}
	}
	for _, s := range []string{"[", "[a", "[a=", "[a=b", "[a='b'", "[a='b", "[a='b]", "[a=b)", "[a}", "a,[b", "[a [ ]", "[a=[]", "[[a]", "[a(]"} { // that nothing closes
		checkSelect(t, s, "")
		checkParse(t, s+"{b:c}y{z:z}")
	}
}
