package token

import "strings"

// blanks are fewer than HTML's white space: the byte 13 is none, since layer 2 has made line ends one.
const blanks = "\t\n\f "

func letter(b byte) bool { return 'a' <= b && b <= 'z' || 'A' <= b && b <= 'Z' }

func digit(b byte) bool { return '0' <= b && b <= '9' }

// madeOf: is each byte a letter, a digit, or one of others?
func madeOf(s, others string) bool {
	for _, b := range []byte(s) {
		if !letter(b) && !digit(b) && strings.IndexByte(others, b) < 0 {
			return false
		}
	}
	return true
}

// small goes by bytes: strings.ToLower would make letters out of others, of U+212A a k.
func small(s string) string {
	l := []byte(s)
	for i, b := range l {
		if 'A' <= b && b <= 'Z' {
			l[i] = b - 'A' + 'a'
		}
	}
	return string(l)
}
