package charref_test

import (
	"math/rand"
	"strconv"
	"strings"
	"testing"

	"selvedge/charref"
)

func checkDecode(t *testing.T, s string, attr bool, want string) {
	t.Helper()
	if got := charref.Decode(s, attr); got != want {
		t.Errorf("Decode(%q, %v) is %q, not %q", s, attr, got, want)
	}
}

func checkDecodeBoth(t *testing.T, s, want string) {
	t.Helper()
	checkDecode(t, s, false, want)
	checkDecode(t, s, true, want)
}

func TestChaptersExamples(t *testing.T) { // P3.2
	for _, x := range []struct{ s, text, attr string }{
		{"&amp;lt; &lt &notin; &notin &noti", "&lt; < \u2209 \u00ACin \u00ACi", "&lt; < \u2209 &notin &noti"},
		{"&copy=1 &copy;=1 &copyx", "\u00A9=1 \u00A9=1 \u00A9x", "&copy=1 \u00A9=1 &copyx"},
		{"&#65; &#x41; &#X41 &#65x &#; &#x; &#", "A A A Ax &#; &#x; &#", "A A A Ax &#; &#x; &#"},
		{"&#0; &#xD800; &#1114112; &#128; &#129;", "\uFFFD \uFFFD \uFFFD \u20AC \u0081", "\uFFFD \uFFFD \uFFFD \u20AC \u0081"},
		{"&unknown; & &; &AMP &Amp;", "&unknown; & &; & &Amp;", "&unknown; & &; & &Amp;"},
	} {
		checkDecode(t, x.s, false, x.text)
		checkDecode(t, x.s, true, x.attr)
	}
}

func TestReferencesOneBehindTheOther(t *testing.T) { // P3.2
	checkDecodeBoth(t, "&lt;&gt;&amp;&quot;&apos;", "<>&\"'")
	checkDecodeBoth(t, "&lt&gt&amp&quot", "<>&\"")
	checkDecodeBoth(t, "&#65&#66&#x43&#x44;&lt", "ABCD<")
	checkDecodeBoth(t, "&&lt;&&#65;&", "&<&A&")
	checkDecodeBoth(t, "a&lt;b&gt;c", "a<b>c")
	checkDecodeBoth(t, "&lt;;&#65;;", "<;A;")
	checkDecodeBoth(t, "&#x&#x41;&#&lt;", "&#xA&#<")
	checkDecodeBoth(t, "&rlm;&lrm;\u05D0&zwj;", "\u200F\u200E\u05D0\u200D")
	checkDecode(t, "&notin;&notin&not;in;&notit;", false, "\u2209\u00ACin\u00ACin;\u00ACit;")
	checkDecode(t, "&notin;&notin&not;in;&notit;", true, "\u2209&notin\u00ACin;&notit;")
	checkDecode(t, "?a=1&copy=2&lt&reg3&amp", false, "?a=1\u00A9=2<\u00AE3&")
	checkDecode(t, "?a=1&copy=2&lt&reg3&amp", true, "?a=1&copy=2<&reg3&")
}

func TestWhatComesOfAReferenceIsPartOfNone(t *testing.T) { // P3.2
	for _, and := range []string{"&amp;", "&AMP;", "&#38;", "&#x26;", "&#038", "&amp;amp;"} {
		want := "&"
		if and == "&amp;amp;" {
			want = "&amp;"
		}
		for _, tail := range []string{"lt;", "#65;", "#x41;", "notin;", ";", "&"} {
			if and == "&#038" && tail == ";" {
				continue
			}
			checkDecodeBoth(t, and+tail, want+tail)
		}
	}
	checkDecodeBoth(t, "&&#35;65;", "&#65;")
	checkDecodeBoth(t, "&&#108;t;", "&lt;")
	checkDecodeBoth(t, "&l&#116;;", "&lt;")
	checkDecodeBoth(t, "&lt&#59;", "<;")
	checkDecodeBoth(t, "&#6&#53;", "\x06"+"5")
	checkDecodeBoth(t, "&no&#116;", "&not")
	// What is behind a name in an attribute is looked at as it is: & is no letter, whatever it comes to be.
	checkDecodeBoth(t, "&copy&#97;", "\u00A9a")
	checkDecodeBoth(t, "&copy&#61;", "\u00A9=")
}

func TestAllElseStays(t *testing.T) { // P3.2
	for _, s := range []string{
		"", "a", ";", "#65;", "amp;", "\x00", "\r\n\r", "\xFF", "\xC3", "\xE2\x82", "\xED\xA0\x80", "\u05D0\u0627", "\U0001F600", "<b a='x'>", "&", "&&&", "&;", "&#", "&#x", "&#xg;", "& lt;",
		"\xC3&\xA9", "&\xC3\xA9;", "&\x00", "a&", "&a;b&c;",
	} {
		checkDecodeBoth(t, s, s)
		checkDecodeBoth(t, s+"&gt;"+s, s+">"+s)
	}
}

func TestCharactersAreWrittenWhole(t *testing.T) { // P3.2
	checkDecodeBoth(t, "&#1;&#127;&#xA0;&#x7FF;&#x800;&#xFFFF;&#x10000;&#x10FFFF;", "\x01\x7F\u00A0\u07FF\u0800\uFFFF\U00010000\U0010FFFF")
	checkDecodeBoth(t, "&#13;&#10;", "\r\n")
	checkDecodeBoth(t, "&#xD83D;&#xDE00;", "\uFFFD\uFFFD")
	checkDecodeBoth(t, "&#0", "\uFFFD")
}

func TestNamesDecoded(t *testing.T) { // P3.2
	for name, r := range bareNames(t) {
		checkDecodeBoth(t, "a&"+name+";b", "a"+string(r)+"b")
		checkDecodeBoth(t, "a&"+name+" b&"+name, "a"+string(r)+" b"+string(r))
		checkDecode(t, "&"+name+"b", false, string(r)+"b")
		checkDecode(t, "&"+name+"b", true, "&"+name+"b")
	}
	for name, r := range otherNames(t) {
		checkDecodeBoth(t, "a&"+name+";b", "a"+string(r)+"b")
		if name != "notin" {
			checkDecodeBoth(t, "a&"+name+" b&"+name, "a&"+name+" b&"+name)
		}
	}
}

func TestLongTexts(t *testing.T) { // P3.2
	const n = 1 << 18
	for _, x := range [][2]string{
		{"a", "a"}, {"&", "&"}, {"&a", "&a"}, {"&#", "&#"}, {"&lt;", "<"}, {"&#x5D0;", "\u05D0"}, {"&notit ", ""}, {"&zzzzzz", "&zzzzzz"},
	} {
		want := x[1]
		if want != "" {
			if charref.Decode(strings.Repeat(x[0], n), true) != strings.Repeat(want, n) {
				t.Errorf("%d times %q", n, x[0])
			}
		}
		if want == "" {
			want = "\u00ACit "
		}
		if charref.Decode(strings.Repeat(x[0], n), false) != strings.Repeat(want, n) {
			t.Errorf("%d times %q", n, x[0])
		}
	}
	digits := strings.Repeat("7", n)
	checkDecodeBoth(t, "a&#"+digits+";b&#x"+digits+"&", "a\uFFFDb\uFFFD&")
}

func TestTextWhoseAndsAreEscaped(t *testing.T) { // P3.3
	parts := []string{"&", "&lt;", "&lt", "&#65;", "&#x41", "&amp;", "&notin;", "&not", ";", "=", "a", "#", "1", " ", "<", "\x00", "\r", "\xC3", "\xFF", "\u05D0", "\U0001F600"}
	choose := rand.New(rand.NewSource(33))
	for range 20000 {
		s := textAt(choose, parts)
		checkDecodeBoth(t, strings.ReplaceAll(s, "&", "&amp;"), s)
	}
	for b := range 256 {
		s := "&" + string([]byte{byte(b)})
		checkDecodeBoth(t, strings.ReplaceAll(s, "&", "&amp;"), s)
	}
}

func TestTextWithoutAndIsItself(t *testing.T) { // P3.3
	parts := []string{"lt;", "#65;", "amp", "notin;", ";", "=", "a", "#x41", "\x00", "\r\n", "\xC3", "\xA9", "\xFF", "\xED\xA0\x80", "\u05D0", "\uFFFD", "\U0001F600", "%26", "\uFF06lt;"}
	choose := rand.New(rand.NewSource(34))
	for range 20000 {
		s := textAt(choose, parts)
		checkDecodeBoth(t, s, s)
	}
}

func TestEachCharacterByItsNumber(t *testing.T) { // P3.3
	for r := rune(1); r <= 0x10FFFF; r++ {
		if 0x80 <= r && r <= 0x9F || 0xD800 <= r && r <= 0xDFFF {
			continue
		}
		ten, sixteen := strconv.Itoa(int(r)), strconv.FormatInt(int64(r), 16)
		checkDecode(t, "&#"+ten+";", r%2 == 0, string(r))
		checkDecode(t, "&#x"+sixteen+";", r%2 != 0, string(r))
	}
}
