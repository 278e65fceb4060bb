package utf_test

import (
	"math/rand"
	"slices"
	"strings"
	"sync"
	"testing"
	"unicode/utf8"

	"selvedge/utf"
)

// A second cut, by the chapter's words alone: all well-formed parts are written out, and what they begin with.

type parts struct {
	whole      map[string]bool
	beginnings map[string]bool
}

var allParts = sync.OnceValue(func() parts {
	p := parts{whole: map[string]bool{}, beginnings: map[string]bool{}}
	for r := rune(0); r <= 0x10FFFF; r++ {
		if 0xD800 <= r && r <= 0xDFFF {
			continue
		}
		s := string(r)
		p.whole[s] = true
		for n := 1; n < len(s); n++ {
			p.beginnings[s[:n]] = true
		}
	}
	return p
})

// cut tells the characters of the parts of s.
func (p parts) cut(s string) []rune {
	var l []rune
	for len(s) > 0 {
		n, r := p.next(s)
		l = append(l, r)
		s = s[n:]
	}
	return l
}

func (p parts) next(s string) (int, rune) {
	longest := 1
	for n := 1; n <= min(4, len(s)); n++ {
		if p.whole[s[:n]] {
			return n, []rune(s[:n])[0]
		}
		if p.beginnings[s[:n]] {
			longest = n
		}
	}
	return longest, 0xFFFD
}

func ends(l []rune) string {
	return strings.ReplaceAll(strings.ReplaceAll(string(l), "\r\n", "\n"), "\r", "\n")
}

// edges are bytes from both sides of each bound that tells one kind of byte from another.
var edges = []byte{
	0x00, '\n', '\r', 'a', 0x7F, 0x80, 0x8F, 0x90, 0x9F, 0xA0, 0xBF, 0xC0, 0xC1, 0xC2, 0xDF, 0xE0, 0xE1, 0xEC, 0xED, 0xEE, 0xEF,
	0xF0, 0xF1, 0xF3, 0xF4, 0xF5, 0xFF,
}

func (p parts) check(t *testing.T, b []byte) {
	t.Helper()
	before := string(b)
	want := p.cut(before)
	if l := utf.Runes(before); !slices.Equal(l, want) {
		t.Fatalf("Runes(% X) is %X, not %X", b, l, want)
	}
	text := decode(t, b)
	if text != ends(want) || string(b) != before {
		t.Fatalf("Decode(% X) is % X, not % X", before, text, ends(want))
	}
	checkText(t, text)
}

// checkText: what follows of a text that Decode told (P2.4).
func checkText(t *testing.T, text string) {
	t.Helper()
	if !utf8.ValidString(text) || strings.Contains(text, "\r") {
		t.Fatalf("% X is no text", text)
	}
	if again := decode(t, []byte(text)); again != text {
		t.Fatalf("Decode of the text % X is % X", text, again)
	}
	if back := utf.String(utf.Runes(text)); back != text {
		t.Fatalf("String of Runes of % X is % X", text, back)
	}
}

func TestCutOfEdges(t *testing.T) { // P2.1, P2.2, P2.4
	p := allParts()
	for _, a := range edges {
		p.check(t, []byte{a})
		for _, b := range edges {
			p.check(t, []byte{a, b})
			for _, c := range edges {
				p.check(t, []byte{a, b, c})
				for _, d := range edges {
					p.check(t, []byte{a, b, c, d})
				}
			}
		}
	}
}

func TestCutOfEveryTwoBytes(t *testing.T) { // P2.1, P2.2, P2.4
	p := allParts()
	for n := range 0x10000 {
		p.check(t, []byte{byte(n >> 8), byte(n)})
	}
}

func TestCutOfLongerBytes(t *testing.T) { // P2.1, P2.2, P2.4
	p := allParts()
	choose := rand.New(rand.NewSource(2))
	for range 20000 {
		b := make([]byte, choose.Intn(24))
		for i := range b {
			b[i] = edges[choose.Intn(len(edges))]
		}
		p.check(t, b)
	}
}

func TestRunesOfStringOfCharacters(t *testing.T) { // P2.4
	choose := rand.New(rand.NewSource(4))
	for range 2000 {
		l := make([]rune, choose.Intn(40))
		for i := range l {
			l[i] = characterAt(choose)
		}
		if back := utf.Runes(utf.String(l)); !slices.Equal(back, l) {
			t.Fatalf("Runes of String of %X is %X", l, back)
		}
	}
}

func characterAt(choose *rand.Rand) rune {
	for {
		r := rune(choose.Intn(1 << (1 + choose.Intn(21))))
		if r <= 0x10FFFF && (r < 0xD800 || r > 0xDFFF) {
			return r
		}
	}
}
