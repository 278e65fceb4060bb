package token_test

import (
	"strings"
	"testing"

	"selvedge/api"
	"selvedge/token"
)

func TestComments(t *testing.T) { // P4.1
	for _, data := range []string{"", " ", "x", " x ", "\n", "-", " -", "- ", "<", "<!", "<!-x", "<!- ", "!", "-!>", "a>", "a->", " >", " ->", "--", "a--b", "--!", "--! >", "<p>", "</", "<?x?>", "<!doctype>", "&amp;", "\xFF", "\u05D0", "A", "-x>", "--x>", "\n>", "\t->"} {
		checkTokens(t, "<!--"+data+"-->", comment(data))
		checkTokens(t, "x<!--"+data+"-->-->", text("x"), comment(data), text("-->"))
	}
	// Their data end at the first -->, though they end with - themselves.
	checkTokens(t, "<!----->", comment("-"))
	checkTokens(t, "<!------>", comment("--"))
	checkTokens(t, "<!--a-->b-->", comment("a"), text("b-->"))
	checkTokens(t, "<!--<!-->", comment("<!"))
	checkTokens(t, "<!--a<!-->", comment("a<!"))
	checkTokens(t, "<!--a--><!--b-->", comment("a"), comment("b"))
}

func TestCommentsThatAreNone(t *testing.T) { // P4.1
	for _, s := range []string{
		"<!--", "<!---", "<!----", "<!-->", "<!--->", "<!--a", "<!--a--", "<!--a->", "<!--a--!", "<!--a-- >", "<!--a--><!--", // without their end
		"<!-->-->", "<!-->a-->", "<!--->-->", "<!--->a-->", // data that begin with > or ->
		"<!----!>-->", "<!--a--!>b-->", "<!--a--!>-->", // --!> within
		"<!--<!---->", "<!--a<!--b-->", "<!--a<!-- -->", "<!--<!--<!---->", // <!-- within
		"<!--<!--->", "<!--a<!--->", // <!- at their end
	} {
		at := strings.LastIndex(s, "--><!--") + 3
		if at < 3 {
			at = 0
		}
		checkError(t, s, api.ErrMark, at)
		checkError(t, "<p>x"+s, api.ErrMark, 4+at)
		checkError(t, "<p>x"+s+"<p a a>", api.ErrMark, 4+at)
	}
}

func TestDoctypes(t *testing.T) { // P4.1
	for _, x := range [][2]string{{"", ""}, {" ", ""}, {" html", "html"}, {"html", "html"}, {" html ", "html"}, {"\t\n\f HTML\f\n\t ", "HTML"}, {" a b ", "a b"}, {" a\n\tb", "a\n\tb"}, {"\rhtml\r", "\rhtml\r"}, {" \vx\v ", "\vx\v"}, {" \u00A0 ", "\u00A0"}, {" a<b", "a<b"}, {" a &amp; b", "a &amp; b"}, {" \"a", "\"a"}, {"/", "/"}, {" --", "--"}, {" \xFF ", "\xFF"}} {
		for _, opening := range []string{"<!doctype", "<!DOCTYPE", "<!DocType", "<!dOCtYPE"} {
			checkTokens(t, opening+x[0]+">", doctype(x[1]))
			checkTokens(t, "x"+opening+x[0]+">>", text("x"), doctype(x[1]), text(">"))
		}
		checkError(t, "<!doctype"+x[0], api.ErrMark, 0)
		checkError(t, "x<!DOCTYPE"+x[0], api.ErrMark, 1)
	}
	checkTokens(t, "<!doctype a><!doctype b>", doctype("a"), doctype("b"))
}

func TestMarksThatAreNone(t *testing.T) { // P4.1
	for _, s := range []string{"<!", "<!>", "<!x>", "<!-", "<!->", "<!-a-->", "<!- -a-->", "<! --a-->", "<! doctype>", "<!doctyp", "<!doctyp>", "<!doctypf>", "<!doc type>", "<![CDATA[x]]>", "<!/p>", "<!!>", "<!p>", "<!\u212A>", "<?", "<?>", "<?x", "<?x?>", "<?xml version='1.0'?>", "<??>"} {
		checkError(t, s, api.ErrMark, 0)
		checkError(t, "a < b"+s, api.ErrMark, 5)
		checkError(t, "<br/>"+s+"</>", api.ErrMark, 5)
	}
	const opening = "<!doctype"
	for i := 2; i < len(opening); i++ {
		for b := 1; b < 256; b++ {
			other := opening[:i] + string([]byte{byte(b)}) + opening[i+1:] + ">"
			if strings.EqualFold(other, opening+">") {
				checkTokens(t, other, doctype(""))
			} else {
				checkError(t, other, api.ErrMark, 0)
			}
		}
	}
}

// checkEnds cuts a thing off behind each of its bytes but the first one (a < alone is a text) and the last one.
func checkEnds(t *testing.T, whole string, want func(n int) api.Errno) {
	t.Helper()
	for n := 2; n < len(whole); n++ {
		for _, ahead := range []string{"", "x", "<br>"} {
			checkError(t, ahead+whole[:n], want(n), len(ahead))
		}
	}
}

func TestTextThatEndsAmidAThing(t *testing.T) { // P4.1
	for whole, e := range map[string]api.Errno{"<section>": api.ErrTag, "<br  />": api.ErrTag, "</section  >": api.ErrTag, "<!-- a -->": api.ErrMark, "<!doctype html>": api.ErrMark} {
		checkEnds(t, whole, func(int) api.Errno { return e })
	}
	// In a value that is empty or not closed the value is what is wrong first.
	const tag = `<p ab cd = "e f" g='h' i=jk l />`
	inValue := map[int]bool{}
	for _, value := range []string{` "e f"`, `'h'`, "j"} {
		first := strings.Index(tag, value)
		for n := first; n < first+len(value); n++ {
			inValue[n] = true
		}
	}
	checkEnds(t, tag, func(n int) api.Errno {
		if inValue[n] {
			return api.ErrAttr
		}
		return api.ErrTag
	})
}

func TestFirstOfSeveralTokensCounts(t *testing.T) { // P4.1
	wrong := []struct {
		s string
		e api.Errno
	}{
		{"</>", api.ErrTag}, {"<p-q>", api.ErrTag}, {"<p / >", api.ErrTag}, {"</p a>", api.ErrTag}, {"</p/>", api.ErrTag},
		{"<p =>", api.ErrAttr}, {"<p a a>", api.ErrAttr}, {"<p a=>", api.ErrAttr}, {"<p a=b=c>", api.ErrAttr},
		{"<p" + attributes(17, "") + ">", api.ErrLimit},
		{"<!x>", api.ErrMark}, {"<?x>", api.ErrMark}, {"<!-->-->", api.ErrMark}, {"<!--<!---->", api.ErrMark},
	}
	for _, ahead := range []string{"", "x", "<p>", "</p>", "x < y", "<!-- -->", "<!doctype html>", "<br/>&lt;"} {
		for _, x := range wrong {
			checkError(t, ahead+x.s, x.e, len(ahead))
			for _, y := range wrong {
				checkError(t, ahead+x.s+y.s, x.e, len(ahead))
				checkError(t, ahead+x.s+" "+y.s, x.e, len(ahead))
			}
		}
	}
}

func TestFirstOfOneTagCounts(t *testing.T) { // P4.1
	many := attributes(16, "")
	for _, x := range []struct {
		s string
		e api.Errno
	}{
		// the name of the tag ahead of all
		{"<p$ a a>", api.ErrTag}, {"<p$ a=>", api.ErrTag}, {"<p$" + attributes(17, "") + ">", api.ErrTag}, {"</p$ =>", api.ErrTag},
		// from the left to the right
		{"<p/ a a>", api.ErrTag}, {"<p a a/ >", api.ErrAttr}, {"<p a=> / >", api.ErrAttr}, {"<p a$ / >", api.ErrAttr}, {"<p / a$>", api.ErrTag}, {"<p a/b a>", api.ErrTag},
		{"<p" + attributes(17, "") + " / >", api.ErrLimit}, {"<p" + many + " / b>", api.ErrTag}, {"<p" + attributes(17, "") + " $>", api.ErrLimit}, {"<p" + attributes(17, "") + " a0>", api.ErrLimit},
		{"<p" + attributes(17, ""), api.ErrLimit}, {"<p" + many, api.ErrTag}, {"<p" + many + " ", api.ErrTag}, {"<p" + attributes(17, "=v"), api.ErrLimit},
		{"<p a a", api.ErrAttr}, {"<p a$", api.ErrAttr}, {"<p a=b=c", api.ErrAttr}, {"<p a='b", api.ErrAttr},
		// of one attribute: name, value, two of one name, one too many
		{"<p a a=>", api.ErrAttr}, {"<p a$=>", api.ErrAttr}, {"<p" + many + " b$>", api.ErrAttr}, {"<p" + many + " b=>", api.ErrAttr}, {"<p" + many + " b='>", api.ErrAttr}, {"<p" + many + " a0>", api.ErrAttr}, {"<p" + many + " A15=x>", api.ErrAttr}, {"<p" + many + " =>", api.ErrAttr},
		{"<p" + many + " b>", api.ErrLimit},
		// what is wrong with an end tag only at its end
		{"</p a b a>", api.ErrAttr}, {"</p" + attributes(17, "") + "/>", api.ErrLimit}, {"</p a=/>", api.ErrTag}, {"</p a= />", api.ErrTag}, {"</p a=''/>", api.ErrTag}, {"</p a '/>", api.ErrAttr},
	} {
		checkError(t, x.s, x.e, 0)
		checkError(t, "xyz"+x.s, x.e, 3)
	}
}

func TestErrorsTellNothingElse(t *testing.T) { // P4.1
	for _, s := range []string{"<p>x</p></>", "a\x00", strings.Repeat("a", api.MaxBytes+1), "<p><p a a>", "<p><!x>"} {
		if l, e, _ := token.Tokens(s); e == api.OK || len(l) != 0 {
			t.Errorf("%.20q: %v, %d", s, l, e)
		}
	}
}
