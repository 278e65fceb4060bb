package charref

const (
	lastCharacter rune = 0x10FFFF
	noCharacter   rune = 0xFFFD
	firstReplaced rune = 0x80
)

// replaced are the characters of the numbers from 80 to 9F: what these bytes meant where such references come from.
var replaced = [32]rune{
	0x20AC, 0x0081, 0x201A, 0x0192, 0x201E, 0x2026, 0x2020, 0x2021, 0x02C6, 0x2030, 0x0160, 0x2039, 0x0152, 0x008D, 0x017D, 0x008F,
	0x0090, 0x2018, 0x2019, 0x201C, 0x201D, 0x2022, 0x2013, 0x2014, 0x02DC, 0x2122, 0x0161, 0x203A, 0x0153, 0x009D, 0x017E, 0x0178,
}

// findNumber tells the reference by number with which s begins; s has &# ahead.
func findNumber(s string) (rune, int, bool) {
	base, start := rune(10), len("&#")
	if start < len(s) && (s[start] == 'x' || s[start] == 'X') {
		base, start = 16, start+1
	}
	number, digits := sumDigits(s[start:], base)
	if digits == 0 {
		return 0, 0, false
	}
	end := start + digits
	if end < len(s) && s[end] == ';' {
		end++
	}
	return numbered(number), end, true
}

// sumDigits tells the number of the digits with which s begins, and how many they are.
func sumDigits(s string, base rune) (rune, int) {
	sum := rune(0)
	for i := range len(s) {
		d := digit(s[i])
		if d >= base {
			return sum, i
		}
		// All numbers past the last character tell the same: held at the first of them, no row of digits runs over.
		sum = min(sum*base+d, lastCharacter+1)
	}
	return sum, len(s)
}

// digit tells what a digit is worth; what is none to either base is worth 16.
func digit(c byte) rune {
	switch {
	case '0' <= c && c <= '9':
		return rune(c - '0')
	case 'a' <= c && c <= 'f':
		return rune(c-'a') + 10
	case 'A' <= c && c <= 'F':
		return rune(c-'A') + 10
	}
	return 16
}

// numbered tells the character of a number, which is not below 0.
func numbered(number rune) rune {
	switch {
	case number == 0, 0xD800 <= number && number <= 0xDFFF, number > lastCharacter:
		return noCharacter
	case firstReplaced <= number && number < firstReplaced+rune(len(replaced)):
		return replaced[number-firstReplaced]
	}
	return number
}
