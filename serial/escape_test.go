package serial_test

import (
	"math/rand"
	"strings"
	"testing"

	"selvedge/serial"
)

// checkEscaped holds both calls against the second way.
func checkEscaped(t *testing.T, s string) {
	t.Helper()
	if got, want := serial.Escape(s), escapeSecond(s, chapterInText); got != want {
		t.Errorf("Escape(%q) is %q, not %q", s, got, want)
	}
	if got, want := serial.EscapeAttr(s), escapeSecond(s, chapterInValue); got != want {
		t.Errorf("EscapeAttr(%q) is %q, not %q", s, got, want)
	}
}

func TestEscapesOfTheChapter(t *testing.T) { // P6.1
	for _, x := range []struct{ s, text, value string }{
		{"a < b & c", "a &lt; b &amp; c", "a < b &amp; c"},
		{"&", "&amp;", "&amp;"},
		{"<", "&lt;", "<"},
		{">", "&gt;", ">"},
		{"\u00A0", "&nbsp;", "&nbsp;"},
		{"\r", "&#13;", "&#13;"},
		{"\"", "\"", "&quot;"},
		{"'", "'", "'"},
		{"x\"y", "x\"y", "x&quot;y"},
		{"1 > 0", "1 &gt; 0", "1 > 0"},
		{"", "", ""},
		{"abc", "abc", "abc"},
		{"\r\n\r\r", "&#13;\n&#13;&#13;", "&#13;\n&#13;&#13;"},
		{"&amp;&lt;&#13;&nbsp;", "&amp;amp;&amp;lt;&amp;#13;&amp;nbsp;", "&amp;amp;&amp;lt;&amp;#13;&amp;nbsp;"},
		{"<a b=\"c\">&\u00A0\r</a>", "&lt;a b=\"c\"&gt;&amp;&nbsp;&#13;&lt;/a&gt;", "<a b=&quot;c&quot;>&amp;&nbsp;&#13;</a>"},
		{"&&&", "&amp;&amp;&amp;", "&amp;&amp;&amp;"},
		{"\u00A0\u00A0\u00A1\u05D0", "&nbsp;&nbsp;\u00A1\u05D0", "&nbsp;&nbsp;\u00A1\u05D0"},
		{"\x00\t\n\f\v", "\x00\t\n\f\v", "\x00\t\n\f\v"},
	} {
		if got := serial.Escape(x.s); got != x.text {
			t.Errorf("Escape(%q) is %q, not %q", x.s, got, x.text)
		}
		if got := serial.EscapeAttr(x.s); got != x.value {
			t.Errorf("EscapeAttr(%q) is %q, not %q", x.s, got, x.value)
		}
		checkEscaped(t, x.s)
	}
}

func TestEachByte(t *testing.T) { // P6.1
	for b := range 256 {
		one := string([]byte{byte(b)})
		for _, s := range []string{one, one + one, "a" + one, one + "a", "&" + one + "&", "\xC2" + one, one + "\xA0", "\u05D0" + one + "\u05D0"} {
			checkEscaped(t, s)
		}
		for c := range 256 {
			checkEscaped(t, one+string([]byte{byte(c)}))
		}
	}
}

func TestEachCharacter(t *testing.T) { // P6.1
	for r := rune(0); r <= 0x10FFFF; r++ {
		s := string(r)
		text, inText := chapterInText[s]
		value, inValue := chapterInValue[s]
		if !inText {
			text = s
		}
		if !inValue {
			value = s
		}
		if got := serial.Escape("a" + s + "b"); got != "a"+text+"b" {
			t.Errorf("Escape of %X is %q", r, got)
		}
		if got := serial.EscapeAttr("a" + s + "b"); got != "a"+value+"b" {
			t.Errorf("EscapeAttr of %X is %q", r, got)
		}
	}
}

func TestIllFormedStrings(t *testing.T) { // P6.1
	for _, x := range [][2]string{
		{"\xC2", "\xC2"}, {"\xA0", "\xA0"}, {"\xC2x\xA0", "\xC2x\xA0"}, {"\xA0\xC2", "\xA0\xC2"}, {"\xC2x", "\xC2x"},
		{"\xC2\xC2\xA0", "\xC2&nbsp;"}, {"\xC2\xA0\xA0", "&nbsp;\xA0"}, {"\xE2\xC2\xA0", "\xE2&nbsp;"}, {"\xE2\x82\xC2\xA0", "\xE2\x82&nbsp;"}, {"\xF0\x9F\x98\xC2\xA0\xFF", "\xF0\x9F\x98&nbsp;\xFF"},
		{"\xE2\xA0", "\xE2\xA0"}, {"\xE0\x82\xA0", "\xE0\x82\xA0"}, {"\xE0\xA0\xA0", "\u0820"}, {"\xF0\x80\x82\xA0", "\xF0\x80\x82\xA0"}, {"\xC3\xA0", "\u00E0"},
		{"\xC2&\xA0", "\xC2&amp;\xA0"}, {"\xE2\x82&", "\xE2\x82&amp;"}, {"\xF0<\x9F>\x98\r", "\xF0&lt;\x9F&gt;\x98&#13;"}, {"\xFF&\xFF", "\xFF&amp;\xFF"}, {"\xC0\xA6", "\xC0\xA6"}, {"\xED\xA0\x80&", "\xED\xA0\x80&amp;"},
		{"\xFE\xFF\x80\xBF", "\xFE\xFF\x80\xBF"}, {"\uFFFD\xFF\uFFFD", "\uFFFD\xFF\uFFFD"},
	} {
		if got := serial.Escape(x[0]); got != x[1] {
			t.Errorf("Escape(%q) is %q, not %q", x[0], got, x[1])
		}
		checkEscaped(t, x[0])
	}
}

func TestAllShortStrings(t *testing.T) { // P6.1
	const bytes = "\xC2\xA0\xE2\xF0\x82a&<>\"\r"
	var longer func(s string)
	longer = func(s string) {
		checkEscaped(t, s)
		if len(s) == 5 || t.Failed() {
			return
		}
		for i := range len(bytes) {
			longer(s + bytes[i:i+1])
		}
	}
	longer("")
}

func TestRandomStrings(t *testing.T) { // P6.1
	random := rand.New(rand.NewSource(61))
	for range 100000 {
		b := make([]byte, random.Intn(20))
		random.Read(b)
		checkEscaped(t, string(b))
		checkEscaped(t, randomText(random, 20))
	}
}

func TestLongStrings(t *testing.T) { // P6.1: no limit is theirs
	const n = 1 << 20
	for _, s := range []string{"a", "&", "\"", "\u00A0", "\xC2", "\u05D0<"} {
		if got, want := serial.Escape(strings.Repeat(s, n)), strings.Repeat(escapeSecond(s, chapterInText), n); got != want {
			t.Errorf("%q many times: %d bytes, not %d", s, len(got), len(want))
		}
		if got, want := serial.EscapeAttr(strings.Repeat(s, n)), strings.Repeat(escapeSecond(s, chapterInValue), n); got != want {
			t.Errorf("%q many times, in a value: %d bytes, not %d", s, len(got), len(want))
		}
	}
}
