package utf_test

import (
	"bytes"
	"math"
	"slices"
	"strings"
	"testing"

	"selvedge/api"
	"selvedge/utf"
)

const bad = "\xEF\xBF\xBD" // FFFD

func decode(t *testing.T, b []byte) string {
	t.Helper()
	s, e := utf.Decode(b)
	if e != api.OK {
		t.Fatalf("Decode(% X): error %d", b, e)
	}
	return s
}

// checkCut tells of ill-formed bytes without line ends, which Decode and Runes cut alike.
func checkCut(t *testing.T, in, want string) {
	t.Helper()
	if s := decode(t, []byte(in)); s != want {
		t.Errorf("Decode(% X) is % X, not % X", in, s, want)
	}
	if l := utf.Runes(in); !slices.Equal(l, []rune(want)) {
		t.Errorf("Runes(% X) is %X", in, l)
	}
}

func TestWellFormedPartsOfEachLength(t *testing.T) { // P2.1, P2.2
	for _, s := range []string{
		"a", "\x00", "\x7F", "\u0080", "\u00E9", "\u07FF", "\u0800", "\u05D0\u0627", "\u0FFF", "\u1000", "\uCFFF", "\uD000", "\uD7FF",
		"\uE000", "\uFFFD", "\uFFFE", "\uFFFF", "\U00010000", "\U0003FFFF", "\U00040000", "\U0001F600", "\U000FFFFF", "\U00100000", "\U0010FFFF",
		"a\u00E9\u05D0\uFFFD\U0001F600z", "\uFEFFa", "\u2028\u2029\u0085\v\f",
	} {
		checkCut(t, s, s)
	}
}

func TestEveryCharacter(t *testing.T) { // P2.1, P2.2, P2.4
	var all []rune
	for r := rune(0); r <= 0x10FFFF; r++ {
		if r < 0xD800 || r > 0xDFFF {
			all = append(all, r)
		}
	}
	for _, r := range all {
		s := utf.String([]rune{r})
		if s != string(r) {
			t.Errorf("String of %X is % X", r, s)
		}
		if l := utf.Runes(s); len(l) != 1 || l[0] != r {
			t.Errorf("Runes of %X is %X", r, l)
		}
		if r != '\r' && decode(t, []byte(s)) != s {
			t.Errorf("Decode of %X", r)
		}
	}
	if l := utf.Runes(utf.String(all)); !slices.Equal(l, all) {
		t.Error("Runes of String of all characters")
	}
}

func TestIllFormedPartsAreCut(t *testing.T) { // P2.1, P2.2
	for _, x := range [][2]string{
		// the chapter's examples
		{"\xC3", bad}, {"\xC3\x28", bad + "("}, {"\xE2\x82\x28", bad + "("}, {"\xF0\x80\x80", bad + bad + bad}, {"\x80", bad},
		{"\xED\xA0\x80", bad + bad + bad}, {"\xF4\x90", bad + bad}, {"\xC0\xAF", bad + bad}, {"\xF0\x9F\x98", bad},
		// beginnings of each length, at the end and ahead of something
		{"\xE2", bad}, {"\xE2\x82", bad}, {"\xF0", bad}, {"\xF0\x9F", bad}, {"\xF0\x9Fx", bad + "x"}, {"\xF0\x9F\x98x", bad + "x"}, {"\xF0x", bad + "x"},
		{"a\xC3\xC3\xA9", "a" + bad + "\u00E9"}, {"\xE2\x82\xE2\x82\xAC", bad + "\u20AC"}, {"\xF0\x9F\x98\xF0\x9F\x98\x80", bad + "\U0001F600"},
		{"\xE2\x82\xC3\xA9", bad + "\u00E9"}, {"\xF0\x9F\x98\xE2\x82\xF0\x9F\xC3", bad + bad + bad + bad},
		// one byte too many
		{"\xC3\xA9\xA9", "\u00E9" + bad}, {"\xE2\x82\xAC\xAC", "\u20AC" + bad}, {"\xF0\x9F\x98\x80\x80\x80", "\U0001F600" + bad + bad},
		// the bounds of the second byte, from both sides
		{"\xC1\xBF", bad + bad}, {"\xC2\x7F", bad + "\x7F"}, {"\xC2\xC0", bad + bad}, {"\xDF\xC0", bad + bad},
		{"\xE0\x9F\xBF", bad + bad + bad}, {"\xE0\xA0", bad}, {"\xE0\xBF", bad}, {"\xE0\xC0", bad + bad}, {"\xE1\x7F", bad + "\x7F"}, {"\xE1\x80", bad},
		{"\xED\x9F", bad}, {"\xED\xBF\xBF", bad + bad + bad}, {"\xEE\x80", bad}, {"\xEF\xBF", bad},
		{"\xF0\x8F\xBF\xBF", bad + bad + bad + bad}, {"\xF0\x90\x80", bad}, {"\xF0\xBF\xBF", bad}, {"\xF1\x80\x80", bad}, {"\xF3\xBF\xBF", bad},
		{"\xF4\x8F\xBF", bad}, {"\xF4\x90\x80\x80", bad + bad + bad + bad}, {"\xF4\x80\x7F", bad + "\x7F"}, {"\xF4\x80\x80\xC0", bad + bad},
		// bytes with which none begins
		{"\xBF", bad}, {"\xC0\x80", bad + bad}, {"\xF5\x80\x80\x80", bad + bad + bad + bad}, {"\xF8\x88\x80\x80\x80", strings.Repeat(bad, 5)},
		{"\xFC", bad}, {"\xFE\xFF", bad + bad},
		// FFFD itself is a character, not ill-formed
		{bad + "\x80" + bad, bad + bad + bad}, {"\xEF\xBF\xEF\xBF\xBD", bad + bad},
	} {
		checkCut(t, x[0], x[1])
	}
}

func TestLineEnds(t *testing.T) { // P2.1
	for _, x := range [][2]string{
		{"a\r\nb\rc", "a\nb\nc"}, {"\n", "\n"}, {"\r", "\n"}, {"\r\n", "\n"}, {"\n\r", "\n\n"}, {"\n\r\n", "\n\n"}, {"\r\r\n", "\n\n"}, {"\r\n\r", "\n\n"},
		{"\r\n\n", "\n\n"}, {"\r\r", "\n\n"}, {"\n\n", "\n\n"}, {"\r\n\r\n", "\n\n"}, {"\n\r\r\n\n\r", "\n\n\n\n\n"}, {"\ra\n", "\na\n"}, {"\r\v\f\u0085\u2028\u2029\n", "\n\v\f\u0085\u2028\u2029\n"},
		{"\xC3\r\n", bad + "\n"}, {"\r\xE2\x82\n", "\n" + bad + "\n"}, {"\r\x80\n", "\n" + bad + "\n"}, {"\xF0\x9F\r", bad + "\n"},
	} {
		if s := decode(t, []byte(x[0])); s != x[1] {
			t.Errorf("Decode(%q) is %q, not %q", x[0], s, x[1])
		}
	}
}

func TestRunesLeavesLineEnds(t *testing.T) { // P2.2
	if l := utf.Runes("\r\n\xC3\r"); !slices.Equal(l, []rune{'\r', '\n', 0xFFFD, '\r'}) {
		t.Errorf("%X", l)
	}
}

func TestDecodeLimit(t *testing.T) { // P2.1
	for _, x := range []struct{ in, out string }{
		{"a", "a"}, {"\xFF", bad}, {"\r", "\n"}, {"\x00", "\x00"},
	} {
		full := bytes.Repeat([]byte(x.in), 65536)
		if s := decode(t, full); s != strings.Repeat(x.out, 65536) {
			t.Errorf("65536 times %q: %d bytes", x.in, len(s))
		}
		if s, e := utf.Decode(append(full, x.in...)); s != "" || e != api.ErrLimit {
			t.Errorf("65537 times %q: %d bytes, error %d", x.in, len(s), e)
		}
	}
	if s, e := utf.Decode(make([]byte, 1<<20)); s != "" || e != api.ErrLimit {
		t.Errorf("%d bytes, error %d", len(s), e)
	}
	if s := decode(t, bytes.Repeat([]byte("\r\n"), 32768)); s != strings.Repeat("\n", 32768) {
		t.Errorf("%d bytes", len(s))
	}
}

func TestRunesAndStringHaveNoLimit(t *testing.T) { // P2.2
	long := strings.Repeat("a\u05D0", 100000)
	l := utf.Runes(long)
	if len(l) != 200000 || l[199998] != 'a' || l[199999] != 0x5D0 {
		t.Errorf("%d characters", len(l))
	}
	if utf.String(l) != long {
		t.Error("String")
	}
}

func TestEmpty(t *testing.T) { // P2.1, P2.2
	for _, b := range [][]byte{nil, {}, make([]byte, 0, 8)} {
		if s := decode(t, b); s != "" {
			t.Errorf("%q", s)
		}
	}
	if l := utf.Runes(""); len(l) != 0 {
		t.Errorf("%X", l)
	}
	for _, l := range [][]rune{nil, {}, make([]rune, 0, 8)} {
		if s := utf.String(l); s != "" {
			t.Errorf("%q", s)
		}
	}
}

func TestStringOfRunesThatAreNoCharacters(t *testing.T) { // P2.2
	for _, r := range []rune{-1, -2, -0x5D0, math.MinInt32, 0xD800, 0xDABC, 0xDC00, 0xDFFF, 0x110000, 0x110041, 0x200000, math.MaxInt32} {
		if s := utf.String([]rune{r}); s != bad {
			t.Errorf("String of %X is % X", r, s)
		}
		if s := utf.String([]rune{'a', r, r, 0x5D0}); s != "a"+bad+bad+"\u05D0" {
			t.Errorf("String with %X is % X", r, s)
		}
	}
	if s := utf.String([]rune{0xD83D, 0xDE00}); s != bad+bad {
		t.Errorf("two surrogates are % X", s)
	}
	if s := utf.String([]rune{0, 'a', 0xE9, 0x20AC, 0x1F600, '\r', '\n', 0xFFFD}); s != "\x00a\u00E9\u20AC\U0001F600\r\n"+bad {
		t.Errorf("% X", s)
	}
}

func TestWhatIsHandedInIsOnlyRead(t *testing.T) { // P2.3
	whole := []byte("a\r\nb\xC3(\r\xF0\x9F\x98 behind \r\n\xFF")
	b, before := whole[:8], bytes.Clone(whole)
	first := decode(t, b)
	if !bytes.Equal(whole, before) {
		t.Errorf("the bytes are % X", whole)
	}
	clear(whole)
	if first != "a\nb"+bad+"(\n"+bad {
		t.Errorf("the text is %q once the bytes are others", first)
	}
	runes := []rune{'a', -1, 0xD800, '\r', 'x', 0x110000}
	l, kept := runes[:4], slices.Clone(runes)
	s := utf.String(l)
	if !slices.Equal(runes, kept) {
		t.Errorf("the characters are %X", runes)
	}
	clear(runes)
	if s != "a"+bad+bad+"\r" {
		t.Errorf("the text is %q once the characters are others", s)
	}
}

func TestAnswersShareNoMemory(t *testing.T) { // P2.3
	text := "a\u05D0\xFF"
	first, second := utf.Runes(text), utf.Runes(text)
	clear(first[:cap(first)])
	for _, l := range [][]rune{second, utf.Runes(text)} {
		if !slices.Equal(l, []rune{'a', 0x5D0, 0xFFFD}) {
			t.Errorf("%X", l)
		}
	}
}
