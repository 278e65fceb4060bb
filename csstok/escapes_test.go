package csstok_test

import (
	"fmt"
	"strings"
	"testing"

	"selvedge/csstok"
)

// checkEscape asks for an escape in a name, a text and each other place where a name stands.
func checkEscape(t *testing.T, escape, want string) {
	t.Helper()
	checkTokens(t, escape, ident(want))
	checkTokens(t, "x"+escape+"/**/y", ident("x"+want), ident("y"))
	checkTokens(t, "-"+escape, ident("-"+want))
	checkTokens(t, escape+"(", call(want))
	checkTokens(t, "@"+escape+";", at(want), sign(";"))
	checkTokens(t, "#"+escape+";", id(want), sign(";"))
	checkTokens(t, "#1"+escape+";", hash("1"+want), sign(";"))
	checkTokens(t, "1"+escape+";", measure("1", want), sign(";"))
	checkTokens(t, `"`+escape+`"`, text(want))
	checkTokens(t, "'x"+escape+"z'", text("x"+want+"z"))
	checkTokens(t, "'x"+escape, text("x"+want))
	checkTokens(t, "'"+escape+"\"\n", bad(want+"\""), white)
}

func TestEscapesOfEachLength(t *testing.T) { // P7.1
	for _, digits := range []string{"9", "c", "C", "5D", "5d", "0e9", "5D0", "5d0", "FFFD", "05D0", "1F600", "1f600", "000041", "00005D", "10FFFF", "10fffF", "01F600"} {
		var number rune
		if _, err := fmt.Sscanf(digits, "%x", &number); err != nil {
			t.Fatal(err)
		}
		want := string(number)
		for _, behind := range []string{" ", "\t", "\n", "\r", "\f", "\r\n"} {
			checkEscape(t, `\`+digits+behind, want)
			checkTokens(t, `\`+digits+behind+behind+"y", ident(want), white, ident("y"))
			checkTokens(t, `\`+digits+behind+"a", ident(want+"a"))
			checkTokens(t, `"\`+digits+behind+" 1\"", text(want+" 1"))
		}
		checkTokens(t, `\`+digits, ident(want))
		checkTokens(t, `"\`+digits, text(want))
		checkTokens(t, `\`+digits+"/**/y", ident(want), ident("y"))
		checkTokens(t, `\`+digits+"g", ident(want+"g"))
		checkTokens(t, `\`+digits+"-_", ident(want+"-_"))
		checkTokens(t, `\`+digits+"\v", ident(want), delim("\v"))
		checkTokens(t, `\`+digits+"\u00A0", ident(want+"\u00A0"))
		checkTokens(t, `\`+digits+`\`+digits+" ", ident(want+want))
		if len(digits) == 6 {
			checkTokens(t, `\`+digits+"0", ident(want+"0"))
			checkTokens(t, `\`+digits+"f g", ident(want+"f"), white, ident("g"))
			checkTokens(t, `"\`+digits+`1"`, text(want+"1"))
		}
	}
	for n := 1; n <= 6; n++ {
		checkEscape(t, `\`+strings.Repeat("0", 6-n)+"FFFFFF"[:n]+" ", []string{"\x0F", "\u00FF", "\u0FFF", "\uFFFF", "\U000FFFFF", "\uFFFD"}[n-1])
	}
	checkTokens(t, `\1234567`, ident("\uFFFD7"))
	checkTokens(t, `\0000410`, ident("A0"))
}

func TestEscapesOfEachNumber(t *testing.T) { // P7.1
	for number := rune(0); number <= 0x11FFFF; number++ {
		want := "\uFFFD"
		if number > 0 && number <= 0x10FFFF && (number < 0xD800 || number > 0xDFFF) {
			want = string(number)
		}
		checkTokens(t, fmt.Sprintf(`\%X`, number), ident(want))
		checkTokens(t, fmt.Sprintf(`"\%06x"`, number), text(want))
		if t.Failed() {
			return
		}
	}
	for _, digits := range []string{"0", "00", "000000", "D800", "d800", "DBFF", "DC00", "DFFF", "00D800", "110000", "200000", "FFFFFF", "ffffff"} {
		checkEscape(t, `\`+digits+" ", "\uFFFD")
	}
	for _, x := range [][2]string{{"D7FF", "\uD7FF"}, {"E000", "\uE000"}, {"10FFFF", "\U0010FFFF"}, {"1", "\x01"}, {"7F", "\x7F"}, {"80", "\u0080"}} {
		checkEscape(t, `\`+x[0]+" ", x[1])
	}
}

func TestEscapesOfCharacters(t *testing.T) { // P7.1
	for r := rune(1); r < 0x180; r++ {
		s := string(r)
		if strings.ContainsRune("0123456789abcdefABCDEF\n\r\f", r) {
			continue
		}
		checkEscape(t, `\`+s, s)
		checkTokens(t, `\`+s+" y", ident(s), white, ident("y"))
	}
	for _, s := range []string{"g", "G", "\u05D0", "\uFFFF", "\U0001F600", "\u2028"} {
		checkEscape(t, `\`+s, s)
	}
	checkEscape(t, "\\\x00", "\uFFFD")
	checkEscape(t, "\\\xFF", "\uFFFD")
	checkEscape(t, "\\\xE2\x82", "\uFFFD")
}

func TestEscapesAtTheEnd(t *testing.T) { // P7.1
	checkReadings(t, []reading{
		{`\`, row(ident("\uFFFD"))}, {`a\`, row(ident("a\uFFFD"))}, {`-\`, row(ident("-\uFFFD"))}, {`--\`, row(ident("--\uFFFD"))}, {`#\`, row(id("\uFFFD"))}, {`#1\`, row(hash("1\uFFFD"))}, {`@\`, row(at("\uFFFD"))}, {`1\`, row(measure("1", "\uFFFD"))}, {`1e\`, row(measure("1", "e\uFFFD"))}, {`1%\`, row(percent("1"), ident("\uFFFD"))},
		{`"\`, row(text(""))}, {`'a\`, row(text("a"))}, {`"\\`, row(text(`\`))}, {`\\`, row(ident(`\`))}, {`\\\`, row(ident("\\\uFFFD"))}, {`\4`, row(ident("\x04"))}, {`"\4`, row(text("\x04"))}, {`\41 `, row(ident("A"))}, {`"\41 `, row(text("A"))}, {`+\`, row(delim("+"), ident("\uFFFD"))}, {`(\`, row(sign("("), ident("\uFFFD"))},
	})
}

func TestNoEscapes(t *testing.T) { // P7.1: a \ with an A behind it
	for _, end := range []string{"\n", "\r", "\f", "\r\n"} {
		checkReadings(t, []reading{
			{`\` + end, row(delim(`\`), white)}, {`a\` + end + "b", row(ident("a"), delim(`\`), white, ident("b"))}, {`-\` + end, row(delim("-"), delim(`\`), white)}, {`#\` + end, row(delim("#"), delim(`\`), white)}, {`@\` + end, row(delim("@"), delim(`\`), white)}, {`1\` + end, row(number("1"), delim(`\`), white)}, {`1e3\` + end, row(number("1e3"), delim(`\`), white)}, {`1e\` + end, row(measure("1", "e"), delim(`\`), white)},
			{`--\` + end, row(ident("--"), delim(`\`), white)}, {`a(\` + end, row(call("a"), delim(`\`), white)}, {`\\` + end, row(ident(`\`), white)}, {`\\\` + end, row(ident(`\`), delim(`\`), white)}, {`\41\` + end, row(ident("A"), delim(`\`), white)}, {`"a"\` + end, row(text("a"), delim(`\`), white)}, {`1%\` + end, row(percent("1"), delim(`\`), white)}, {`#a\` + end, row(id("a"), delim(`\`), white)}, {`@a\` + end, row(at("a"), delim(`\`), white)},
			{`"\` + end + `"`, row(text(""))}, {`"a\` + end + `b"`, row(text("ab"))}, {`'\` + end, row(text(""))}, {`"\\` + end, row(bad(`\`), white)}, {`"\41\` + end + `1"`, row(text("A1"))}, {`"\41` + end + `1"`, row(text("A1"))}, {`"\41` + end + end, row(bad("A"), white)}, {`"\` + end + end, row(bad(""), white)}, {`"\` + end + `41"`, row(text("41"))},
		})
	}
}

func TestOneWhiteBehindAnEscape(t *testing.T) { // P7.1
	checkReadings(t, []reading{
		{`\41  b`, row(ident("A"), white, ident("b"))}, {"\\41 \nb", row(ident("A"), white, ident("b"))}, {`\g b`, row(ident("g"), white, ident("b"))}, {`\41 (`, row(call("A"))}, {`\41/**/ b`, row(ident("A"), white, ident("b"))}, {`1\70 x`, row(measure("1", "px"))}, {`#\31 \32 3`, row(id("123"))}, {`"\41  b"`, row(text("A b"))}, {`"\g b"`, row(text("g b"))},
		{"\"\\41\n\"", row(text("A"))}, {"\"\\41\n\n", row(bad("A"), white)}, {"\"\\41 \n", row(bad("A"), white)}, {"\"\\000041\nb", row(text("Ab"))},
	})
	checkTokens(t, strings.Repeat(`\41 `, 1000), csstok.Token{Kind: csstok.Ident, Value: strings.Repeat("A", 1000)})
}
