package csstok

import "selvedge/utf"

// replacement stands for what is no character.
const replacement rune = 0xFFFD

// none is told where there is nothing more; it is like no character.
const none rune = -1

// at tells the character of a place.
func at(l []rune, place int) rune {
	if place < len(l) {
		return l[place]
	}
	return none
}

// characters tells a text's characters: each line's end is one \n, and none of them is 0.
func characters(s string) []rune {
	l := utf.Runes(s)
	kept := l[:0]
	before := rune(0)
	for _, c := range l {
		switch {
		case c == 0:
			kept = append(kept, replacement)
		case c == '\r' || c == '\f':
			kept = append(kept, '\n')
		case c != '\n' || before != '\r': // else it ends the line that the \r has ended
			kept = append(kept, c)
		}
		before = c
	}
	return kept
}

// character tells the character that an escape's number stands for.
func character(number rune) rune {
	if number == 0 || 0xD800 <= number && number <= 0xDFFF || number > 0x10FFFF {
		return replacement
	}
	return number
}

func isWhite(c rune) bool { return c == '\t' || c == '\n' || c == ' ' }

func isPlusOrMinus(c rune) bool { return c == '+' || c == '-' }

func isE(c rune) bool { return c == 'e' || c == 'E' }

func isDigit(c rune) bool { return '0' <= c && c <= '9' }

func isLetter(c rune) bool { return 'a' <= c && c <= 'z' || 'A' <= c && c <= 'Z' }

func beginsNames(c rune) bool { return isLetter(c) || c == '_' || c >= 0x80 }

func isOfNames(c rune) bool { return beginsNames(c) || isDigit(c) || c == '-' }

// digitOf16 tells what a digit to the base 16 counts.
func digitOf16(c rune) (rune, bool) {
	switch {
	case isDigit(c):
		return c - '0', true
	case 'a' <= c && c <= 'f':
		return c - 'a' + 10, true
	case 'A' <= c && c <= 'F':
		return c - 'A' + 10, true
	}
	return 0, false
}
