package charref_test

import (
	"strconv"
	"strings"
	"testing"
)

// What the chapter lists, as it writes it.

const chapterBareNames = `amp 26, lt 3C, gt 3E, quot 22, AMP 26, LT 3C, GT 3E, QUOT 22, COPY A9, REG AE, nbsp A0, cent A2, pound A3, yen A5, sect A7, copy A9, laquo AB, not AC, shy AD, reg AE, deg B0, plusmn B1, para B6, middot B7, raquo BB, times D7, divide F7`

const chapterOtherNames = `apos 27, ensp 2002, emsp 2003, thinsp 2009, zwnj 200C, zwj 200D, lrm 200E, rlm 200F, ndash 2013, mdash 2014, lsquo 2018, rsquo 2019, ldquo 201C, rdquo 201D, bull 2022, hellip 2026, lsaquo 2039, rsaquo 203A, euro 20AC, larr 2190, uarr 2191, rarr 2192, darr 2193, in 2208, notin 2209, minus 2212, infin 221E, ne 2260, le 2264, ge 2265, lang 27E8, rang 27E9`

const chapterNumbers = `80 20AC, 82 201A, 83 192, 84 201E, 85 2026, 86 2020, 87 2021, 88 2C6, 89 2030, 8A 160, 8B 2039, 8C 152, 8E 17D, 91 2018, 92 2019, 93 201C, 94 201D, 95 2022, 96 2013, 97 2014, 98 2DC, 99 2122, 9A 161, 9B 203A, 9C 153, 9E 17E, 9F 178`

func hex(t *testing.T, s string) rune {
	t.Helper()
	n, err := strconv.ParseInt(s, 16, 32)
	if err != nil {
		t.Fatal(err)
	}
	return rune(n)
}

// chapterRows tells the two words of each thing that a text of the chapter lists.
func chapterRows(t *testing.T, text string, count int) [][2]string {
	t.Helper()
	var rows [][2]string
	for _, s := range strings.Split(text, ", ") {
		left, right, _ := strings.Cut(s, " ")
		rows = append(rows, [2]string{left, right})
	}
	if len(rows) != count {
		t.Fatalf("the chapter lists %d, not %d", len(rows), count)
	}
	return rows
}

func namesIn(t *testing.T, text string, count int) map[string]rune {
	t.Helper()
	names := map[string]rune{}
	for _, row := range chapterRows(t, text, count) {
		names[row[0]] = hex(t, row[1])
	}
	return names
}

func bareNames(t *testing.T) map[string]rune {
	t.Helper()
	return namesIn(t, chapterBareNames, 27)
}

func otherNames(t *testing.T) map[string]rune {
	t.Helper()
	return namesIn(t, chapterOtherNames, 32)
}

// numbersCharacter tells the character of a number, by the chapter's words.
func numbersCharacter(t *testing.T) func(n int64) rune {
	t.Helper()
	told := map[int64]rune{}
	for _, row := range chapterRows(t, chapterNumbers, 27) {
		told[int64(hex(t, row[0]))] = hex(t, row[1])
	}
	return func(n int64) rune {
		if r, ok := told[n]; ok {
			return r
		}
		if n == 0 || 0xD800 <= n && n <= 0xDFFF || n > 0x10FFFF {
			return 0xFFFD
		}
		return rune(n)
	}
}
