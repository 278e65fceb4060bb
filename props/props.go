// Package props is layer 1: what is known of a character. See shared/doc/01-props.md.
package props

import (
	"sort"

	"selvedge/api"
)

// pair is two characters each of which mirrors the other one.
type pair struct {
	left    rune
	right   rune
	bracket bool
}

var pairs = [...]pair{
	{0x0028, 0x0029, true}, {0x005B, 0x005D, true}, {0x007B, 0x007D, true},
	{0x2045, 0x2046, true}, {0x207D, 0x207E, true}, {0x208D, 0x208E, true},
	{0x2308, 0x2309, true}, {0x230A, 0x230B, true}, {0x2329, 0x232A, true},
	{0x27E6, 0x27E7, true}, {0x27E8, 0x27E9, true}, {0x27EA, 0x27EB, true},
	{0x27EC, 0x27ED, true}, {0x27EE, 0x27EF, true},
	{0x3008, 0x3009, true}, {0x300A, 0x300B, true}, {0x300C, 0x300D, true},
	{0x300E, 0x300F, true}, {0x3010, 0x3011, true}, {0x3014, 0x3015, true},
	{0x3016, 0x3017, true}, {0x3018, 0x3019, true}, {0x301A, 0x301B, true},
	{0x003C, 0x003E, false}, {0x00AB, 0x00BB, false}, {0x2039, 0x203A, false},
	{0x2208, 0x220B, false}, {0x2264, 0x2265, false}, {0x226A, 0x226B, false},
	{0x2282, 0x2283, false},
}

// Class tells a character's bidi class.
func Class(r rune) api.Class {
	spans := classSpans()
	i := sort.Search(len(spans), func(i int) bool { return r <= spans[i].last })
	if i < len(spans) && spans[i].first <= r {
		return spans[i].class
	}
	return api.L
}

// Bracket tells the closing bracket of a bracket; whether it is an opening one; whether it is one.
func Bracket(r rune) (rune, bool, bool) {
	for _, p := range pairs {
		if p.bracket && (r == p.left || r == p.right) {
			return canonicalClosing(p.right), r == p.left, true
		}
	}
	return 0, false, false
}

// canonicalClosing makes one of closing brackets that are canonically the same, so that either closes what the other one would.
func canonicalClosing(r rune) rune {
	if r == 0x232A {
		return 0x3009
	}
	return r
}

// Mirror tells what mirrors a character.
func Mirror(r rune) (rune, bool) {
	for _, p := range pairs {
		switch r {
		case p.left:
			return p.right, true
		case p.right:
			return p.left, true
		}
	}
	return r, false
}

// Space: is it white space of HTML?
func Space(r rune) bool {
	switch r {
	case 0x9, 0xA, 0xC, 0xD, 0x20:
		return true
	}
	return false
}
