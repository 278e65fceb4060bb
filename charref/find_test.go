package charref_test

import (
	"slices"
	"strconv"
	"strings"
	"testing"

	"selvedge/charref"
)

type found struct {
	character rune
	bytes     int
	is        bool
}

func checkFind(t *testing.T, s string, attr bool, want found) {
	t.Helper()
	r, n, ok := charref.Find(s, attr)
	if got := (found{r, n, ok}); got != want {
		t.Errorf("Find(%q, %v) is %v, not %v", s, attr, got, want)
	}
}

// checkBoth is of what is the same in an attribute and out of one.
func checkBoth(t *testing.T, s string, want found) {
	t.Helper()
	checkFind(t, s, false, want)
	checkFind(t, s, true, want)
}

// goesOn: is this byte = or an ASCII letter or digit?
func goesOn(b byte) bool {
	return strings.IndexByte("=0123456789abcdefghijklmnopqrstuvwxyzABCDEFGHIJKLMNOPQRSTUVWXYZ", b) >= 0
}

func TestNamesWithTheirSemicolon(t *testing.T) { // P3.1
	for _, names := range []map[string]rune{bareNames(t), otherNames(t)} {
		for name, r := range names {
			want := found{r, len(name) + 2, true}
			checkBoth(t, "&"+name+";", want)
			for b := range 256 {
				checkBoth(t, "&"+name+";"+string([]byte{byte(b)}), want)
			}
		}
	}
}

func TestNamesThatStandWithoutSemicolon(t *testing.T) { // P3.1
	for name, r := range bareNames(t) {
		want := found{r, len(name) + 1, true}
		checkBoth(t, "&"+name, want)
		for b := range 256 {
			if b == ';' {
				continue
			}
			s := "&" + name + string([]byte{byte(b)})
			checkFind(t, s, false, want)
			if goesOn(byte(b)) {
				checkFind(t, s, true, found{})
			} else {
				checkFind(t, s, true, want)
			}
		}
	}
}

func TestNamesThatWantTheirSemicolon(t *testing.T) { // P3.1
	for name := range otherNames(t) {
		without := found{}
		if name == "notin" {
			without = found{0xAC, len("&not"), true}
		}
		checkFind(t, "&"+name, false, without)
		checkFind(t, "&"+name, true, found{})
		for b := range 256 {
			if b == ';' || name == "in" && b == 'f' {
				continue
			}
			s := "&" + name + string([]byte{byte(b)})
			checkFind(t, s, false, without)
			checkFind(t, s, true, found{})
		}
	}
}

func TestLongestNameCounts(t *testing.T) { // P3.1
	for _, x := range []struct {
		s          string
		text, attr found
	}{
		{"&notin;", found{0x2209, 7, true}, found{0x2209, 7, true}},
		{"&notin;x", found{0x2209, 7, true}, found{0x2209, 7, true}},
		{"&notin", found{0xAC, 4, true}, found{}},
		{"&notin ;", found{0xAC, 4, true}, found{}},
		{"&notinx;", found{0xAC, 4, true}, found{}},
		{"&noti", found{0xAC, 4, true}, found{}},
		{"&noti;", found{0xAC, 4, true}, found{}},
		{"&not;in;", found{0xAC, 5, true}, found{0xAC, 5, true}},
		{"&not;;", found{0xAC, 5, true}, found{0xAC, 5, true}},
		{"&not in;", found{0xAC, 4, true}, found{0xAC, 4, true}},
		{"&not", found{0xAC, 4, true}, found{0xAC, 4, true}},
		{"&infin;", found{0x221E, 7, true}, found{0x221E, 7, true}},
		{"&in;fin;", found{0x2208, 4, true}, found{0x2208, 4, true}},
		{"&infin", found{}, found{}},
		{"&ampamp;", found{0x26, 4, true}, found{}},
		{"&amplt;", found{0x26, 4, true}, found{}},
		{"&ltle;", found{0x3C, 3, true}, found{}},
		{"&copyright;", found{0xA9, 5, true}, found{}},
	} {
		checkFind(t, x.s, false, x.text)
		checkFind(t, x.s, true, x.attr)
	}
}

// nearNames are the names, and what is a little off one.
func nearNames(names map[string]rune) []string {
	const letters = "abcdefghijklmnopqrstuvwxyzABCDEFGHIJKLMNOPQRSTUVWXYZ019;#&= \x00\xC3"
	near := map[string]bool{"": true}
	for name := range names {
		for _, s := range []string{name, strings.ToUpper(name), strings.ToLower(name), strings.ToUpper(name[:1]) + name[1:], name + name} {
			near[s] = true
		}
		for i := range len(name) + 1 {
			near[name[:i]] = true
			near[name[i:]] = true
			for j := range len(letters) {
				near[name[:i]+letters[j:j+1]+name[i:]] = true
				near[name[:i]+letters[j:j+1]+name[min(i+1, len(name)):]] = true
			}
		}
	}
	var l []string
	for s := range near {
		l = append(l, s)
	}
	slices.Sort(l)
	return l
}

func TestWhatIsNearAName(t *testing.T) { // P3.1
	reader := newReader(t)
	for _, s := range nearNames(reader.names) {
		for _, tail := range []string{"", ";", " ", "=", "x;"} {
			checkFind(t, "&"+s+tail, false, reader.find("&"+s+tail, false))
			checkFind(t, "&"+s+tail, true, reader.find("&"+s+tail, true))
		}
	}
}

func TestEveryShortWord(t *testing.T) { // P3.1
	reader := newReader(t)
	const letters = "abcdefghijklmnopqrstuvwxyzABCDEFGHIJKLMNOPQRSTUVWXYZ;"
	for i := range len(letters) {
		for j := range len(letters) {
			for k := range len(letters) {
				s := string([]byte{'&', letters[i], letters[j], letters[k], ';'})
				checkFind(t, s, false, reader.find(s, false))
				checkFind(t, s[:4], true, reader.find(s[:4], true))
			}
		}
	}
}

func TestEveryNumber(t *testing.T) { // P3.1, P3.3
	character := numbersCharacter(t)
	for n := range int64(0x110400) {
		r := character(n)
		for _, s := range []string{
			"&#" + strconv.FormatInt(n, 10), "&#x" + strconv.FormatInt(n, 16), "&#X" + strings.ToUpper(strconv.FormatInt(n, 16)),
		} {
			checkFind(t, s, n%2 == 0, found{r, len(s), true})
			checkFind(t, s+";", n%2 != 0, found{r, len(s) + 1, true})
		}
	}
}

func TestNumbersThatAreAnotherCharacter(t *testing.T) { // P3.1
	for _, x := range []struct{ number, character rune }{
		{0, 0xFFFD}, {1, 1}, {0x7F, 0x7F}, {0x80, 0x20AC}, {0x81, 0x81}, {0x82, 0x201A}, {0x83, 0x192}, {0x88, 0x2C6}, {0x8D, 0x8D}, {0x8E, 0x17D},
		{0x8F, 0x8F}, {0x90, 0x90}, {0x91, 0x2018}, {0x9D, 0x9D}, {0x9E, 0x17E}, {0x9F, 0x178}, {0xA0, 0xA0}, {0xD, 0xD}, {0x26, 0x26},
		{0xD7FF, 0xD7FF}, {0xD800, 0xFFFD}, {0xDBFF, 0xFFFD}, {0xDC00, 0xFFFD}, {0xDFFF, 0xFFFD}, {0xE000, 0xE000}, {0xFFFD, 0xFFFD}, {0xFFFE, 0xFFFE},
		{0xFFFF, 0xFFFF}, {0x10000, 0x10000}, {0x10FFFF, 0x10FFFF}, {0x110000, 0xFFFD}, {0x7FFFFFFF, 0xFFFD},
	} {
		for _, s := range []string{"&#" + strconv.Itoa(int(x.number)), "&#x" + strconv.FormatInt(int64(x.number), 16)} {
			checkBoth(t, s, found{x.character, len(s), true})
			checkBoth(t, s+";", found{x.character, len(s) + 1, true})
		}
	}
}

func TestWhatFollowsANumber(t *testing.T) { // P3.1
	for b := range 256 {
		tail := string([]byte{byte(b)})
		if !strings.Contains("0123456789;", tail) {
			checkBoth(t, "&#65"+tail, found{'A', 4, true})
		}
		if !strings.Contains("0123456789abcdefABCDEF;", tail) {
			checkBoth(t, "&#x41"+tail, found{'A', 5, true})
			checkBoth(t, "&#X41"+tail, found{'A', 5, true})
		}
		checkBoth(t, "&#65;"+tail, found{'A', 5, true})
		checkBoth(t, "&#x41;"+tail, found{'A', 6, true})
	}
}

func TestDigitsOfBothCases(t *testing.T) { // P3.1
	for _, s := range []string{"&#xabcdef", "&#XABCDEF", "&#xAbCdEf"} {
		checkBoth(t, s+";", found{0xFFFD, 10, true})
		checkBoth(t, s[:8], found{0xABCDE, 8, true})
	}
	checkBoth(t, "&#x12345;", found{0x12345, 9, true})
	checkBoth(t, "&#x6789a;", found{0x6789A, 9, true})
	checkBoth(t, "&#987654;", found{987654, 9, true})
	checkBoth(t, "&#1032100;", found{1032100, 10, true})
}

func TestNoughtsAhead(t *testing.T) { // P3.1
	for _, n := range []int{1, 2, 7, 8, 9, 16, 33, 100000} {
		noughts := strings.Repeat("0", n)
		checkBoth(t, "&#"+noughts+"65;", found{'A', n + 5, true})
		checkBoth(t, "&#"+noughts+"65 ", found{'A', n + 4, true})
		checkBoth(t, "&#x"+noughts+"41;", found{'A', n + 6, true})
		checkBoth(t, "&#X"+noughts+"10FFFF", found{0x10FFFF, n + 9, true})
		checkBoth(t, "&#"+noughts+"128", found{0x20AC, n + 5, true})
		checkBoth(t, "&#"+noughts+";", found{0xFFFD, n + 3, true})
		checkBoth(t, "&#x"+noughts, found{0xFFFD, n + 3, true})
	}
}

func TestVeryManyDigits(t *testing.T) { // P3.1
	// Each of these is 65 or 1114111, once a sum has run over 31, 32, 63 or 64 bits.
	for _, digits := range []string{
		"2147483713", "4294967361", "9223372036854775873", "18446744073709551681", "340282366920938463463374607431768211521",
		"2148597759", "4296081407", "18446744073710665727", "1114112", "11141110", "9999999999",
	} {
		checkBoth(t, "&#"+digits, found{0xFFFD, len(digits) + 2, true})
		checkBoth(t, "&#"+digits+";", found{0xFFFD, len(digits) + 3, true})
	}
	for _, digits := range []string{
		"80000041", "100000041", "8000000000000041", "10000000000000041", "100000000000000000000000000000041", "10010FFFF", "110000", "10FFFF0", "FFFFFFFF",
	} {
		checkBoth(t, "&#x"+digits, found{0xFFFD, len(digits) + 3, true})
		checkBoth(t, "&#X"+digits+";", found{0xFFFD, len(digits) + 4, true})
	}
	for n := 1; n <= 80; n++ {
		for _, zero := range []string{"0", "1", "9"} {
			digits := "1" + strings.Repeat(zero, n+6)
			checkBoth(t, "&#"+digits+";", found{0xFFFD, len(digits) + 3, true})
			checkBoth(t, "&#x"+digits+"x", found{0xFFFD, len(digits) + 3, true})
		}
	}
	checkBoth(t, "&#"+strings.Repeat("9", 1<<20)+";", found{0xFFFD, 1<<20 + 3, true})
	checkBoth(t, "&#x"+strings.Repeat("f", 1<<20), found{0xFFFD, 1<<20 + 3, true})
}

func TestWhatOnlyLooksLikeAReference(t *testing.T) { // P3.1
	for _, s := range []string{
		"", "&", "&&", "&;", "& ", "&=", "&\x00", "&\xC3", "&\u05D0", "& amp;", "&&amp;", "&#", "&#;", "&# 65;", "&#-65;", "&#+65;", "&#a", "&#A;", "&#_1", "&##65;",
		"&#&#65;", "&#x", "&#X", "&#x;", "&#X;", "&#xg", "&#XG1;", "&#x 41;", "&#x-41;", "&#xx41;", "&#Xx41;", "&#x#41;", "&#\uFF11;", "&#\u0661;", "&x41;", "&65;",
		"&unknown;", "&a", "&am", "&am;", "&Amp;", "&aMP;", "&Lt;", "&Copy;", "&NBSP;", "&APOS;", "&apos", "&le", "&leq;", "&in", "&i;", "&lan;", "&langle;", "&zw;", "&zzzzzzzz;",
		"x", "x&lt;", " &lt;", ";&lt;", "amp;", "#65;", "lt", "\u05D0&amp;", "\xC3&amp;", "\x00&amp;", "\n&amp;",
	} {
		checkBoth(t, s, found{})
	}
}
