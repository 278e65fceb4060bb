package csstok

import "selvedge/utf"

// reader goes through a text's characters: rest is what has not been taken.
type reader struct {
	rest []rune
}

func (r *reader) ended() bool { return len(r.rest) == 0 }

// at tells the character that stands n further on.
func (r *reader) at(n int) rune { return at(r.rest, n) }

// stands: do these characters, each of one byte, stand here?
func (r *reader) stands(s string) bool {
	for i, c := range s {
		if r.at(i) != c {
			return false
		}
	}
	return true
}

// take takes n characters; there are so many.
func (r *reader) take(n int) []rune {
	taken := r.rest[:n]
	r.rest = r.rest[n:]
	return taken
}

// skip takes what is told, if it stands here.
func (r *reader) skip(s string) bool {
	if !r.stands(s) {
		return false
	}
	r.take(len(s))
	return true
}

func (r *reader) passComments() {
	for r.skip("/*") {
		for !r.ended() && !r.stands("*/") {
			r.take(1)
		}
		r.skip("*/")
	}
}

func (r *reader) escapeAt(n int) bool { return r.at(n) == '\\' && r.at(n+1) != '\n' }

func (r *reader) nameAt(n int) bool {
	if r.at(n) == '-' {
		n++
		if r.at(n) == '-' {
			return true
		}
	}
	return beginsNames(r.at(n)) || r.escapeAt(n)
}

func (r *reader) numberStands() bool {
	n := 0
	if isPlusOrMinus(r.at(n)) {
		n++
	}
	if r.at(n) == '.' {
		n++
	}
	return isDigit(r.at(n))
}

// takeEscape takes the escape that stands here.
func (r *reader) takeEscape() rune {
	r.take(1)
	if r.ended() {
		return replacement
	}
	if _, ok := digitOf16(r.at(0)); !ok {
		return r.take(1)[0]
	}
	number := rune(0)
	for range 6 {
		digit, ok := digitOf16(r.at(0))
		if !ok {
			break
		}
		number = number*16 + digit
		r.take(1)
	}
	if isWhite(r.at(0)) {
		r.take(1)
	}
	return character(number)
}

func (r *reader) takeName() string {
	var name []rune
	for {
		switch {
		case isOfNames(r.at(0)):
			name = append(name, r.take(1)...)
		case r.escapeAt(0):
			name = append(name, r.takeEscape())
		default:
			return utf.String(name)
		}
	}
}

// takeNumber takes the number that stands here.
func (r *reader) takeNumber() string {
	n := 0
	if isPlusOrMinus(r.at(n)) {
		n++
	}
	n = r.behindDigits(n)
	if r.at(n) == '.' && isDigit(r.at(n+1)) {
		n = r.behindDigits(n + 1)
	}
	if isE(r.at(n)) {
		power := n + 1
		if isPlusOrMinus(r.at(power)) {
			power++
		}
		if isDigit(r.at(power)) {
			n = r.behindDigits(power)
		}
	}
	return utf.String(r.take(n))
}

// behindDigits tells where the digits end that stand n further on.
func (r *reader) behindDigits(n int) int {
	for isDigit(r.at(n)) {
		n++
	}
	return n
}
