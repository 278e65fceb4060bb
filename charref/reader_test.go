package charref_test

import (
	"math/big"
	"math/rand"
	"strings"
	"testing"

	"selvedge/charref"
)

// A second reader, by the chapter's words alone: of all that may be a reference by name the longest is taken; numbers are as great as they are.

type reader struct {
	names     map[string]rune
	bare      map[string]rune
	character func(n int64) rune
}

func newReader(t *testing.T) reader {
	t.Helper()
	p := reader{names: map[string]rune{}, bare: bareNames(t), character: numbersCharacter(t)}
	for _, names := range []map[string]rune{p.bare, otherNames(t)} {
		for name, r := range names {
			p.names[name] = r
		}
	}
	if len(p.names) != 59 {
		t.Fatalf("the chapter has %d names", len(p.names))
	}
	return p
}

func (p reader) find(s string, attr bool) found {
	if number, ok := strings.CutPrefix(s, "&#"); ok {
		return p.findNumber(s, number)
	}
	var best found
	for name, r := range p.names {
		if strings.HasPrefix(s, "&"+name+";") && best.bytes < len(name)+2 {
			best = found{r, len(name) + 2, true}
		}
	}
	for name, r := range p.bare {
		if strings.HasPrefix(s, "&"+name) && best.bytes < len(name)+1 {
			best = found{r, len(name) + 1, true}
		}
	}
	if attr && best.is && s[best.bytes-1] != ';' && best.bytes < len(s) && goesOn(s[best.bytes]) {
		return found{}
	}
	return best
}

func (p reader) findNumber(s, number string) found {
	base, digits := 10, "0123456789"
	if strings.HasPrefix(number, "x") || strings.HasPrefix(number, "X") {
		base, digits, number = 16, "0123456789abcdefABCDEF", number[1:]
	}
	behind := strings.TrimLeft(number, digits)
	sum, ok := new(big.Int).SetString(number[:len(number)-len(behind)], base)
	if !ok {
		return found{}
	}
	r := rune(0xFFFD)
	if sum.IsInt64() {
		r = p.character(sum.Int64())
	}
	behind = strings.TrimPrefix(behind, ";")
	return found{r, len(s) - len(behind), true}
}

func (p reader) decode(s string, attr bool) string {
	text := ""
	for s != "" {
		f := p.find(s, attr)
		if f.is {
			text += string(f.character)
			s = s[f.bytes:]
			continue
		}
		text += s[:1]
		s = s[1:]
	}
	return text
}

// textAt tells a text of what references are made of, and of what stands about them.
func textAt(choose *rand.Rand, parts []string) string {
	var s strings.Builder
	for range choose.Intn(14) {
		s.WriteString(parts[choose.Intn(len(parts))])
	}
	return s.String()
}

func TestTextsAgainstASecondReader(t *testing.T) { // P3.1, P3.2
	p := newReader(t)
	parts := []string{
		"&", "&", "&", ";", ";", "#", "&#", "&#x", "&#X", "x", "0", "00", "1", "9", "65", "128", "41", "d8", "00", "f", "F", "g", "=", " ", "amp", "amp;",
		"&amp;", "&lt", "&not", "&notin", "in", "in;", "i", "n", "not", "copy", "&copy", "COPY", "REG", "&le", "&le;", "a", "Z", "\x00", "\n", "\xC3", "\xA9", "\u05D0", "\U0001F600",
	}
	for name := range p.names {
		parts = append(parts, "&"+name)
	}
	choose := rand.New(rand.NewSource(3))
	for range 12000 {
		s := textAt(choose, parts)
		for _, attr := range []bool{false, true} {
			checkFind(t, s, attr, p.find(s, attr))
			if got, want := charref.Decode(s, attr), p.decode(s, attr); got != want {
				t.Fatalf("Decode(%q, %v) is %q, not %q", s, attr, got, want)
			}
		}
	}
}
