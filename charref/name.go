package charref

import "sort"

// name is a character's name; bare: it stands without ; too.
type name struct {
	text      string
	character rune
	bare      bool
}

const (
	nameCount   = 59
	longestName = 6 // bytes
)

// allNames tells the names, rising, so that they can be looked up by halves.
func allNames() [nameCount]name {
	return [nameCount]name{
		{"AMP", 0x26, true}, {"COPY", 0xA9, true}, {"GT", 0x3E, true}, {"LT", 0x3C, true}, {"QUOT", 0x22, true},
		{"REG", 0xAE, true}, {"amp", 0x26, true}, {"apos", 0x27, false}, {"bull", 0x2022, false}, {"cent", 0xA2, true},
		{"copy", 0xA9, true}, {"darr", 0x2193, false}, {"deg", 0xB0, true}, {"divide", 0xF7, true}, {"emsp", 0x2003, false},
		{"ensp", 0x2002, false}, {"euro", 0x20AC, false}, {"ge", 0x2265, false}, {"gt", 0x3E, true}, {"hellip", 0x2026, false},
		{"in", 0x2208, false}, {"infin", 0x221E, false}, {"lang", 0x27E8, false}, {"laquo", 0xAB, true}, {"larr", 0x2190, false},
		{"ldquo", 0x201C, false}, {"le", 0x2264, false}, {"lrm", 0x200E, false}, {"lsaquo", 0x2039, false}, {"lsquo", 0x2018, false},
		{"lt", 0x3C, true}, {"mdash", 0x2014, false}, {"middot", 0xB7, true}, {"minus", 0x2212, false}, {"nbsp", 0xA0, true},
		{"ndash", 0x2013, false}, {"ne", 0x2260, false}, {"not", 0xAC, true}, {"notin", 0x2209, false}, {"para", 0xB6, true},
		{"plusmn", 0xB1, true}, {"pound", 0xA3, true}, {"quot", 0x22, true}, {"rang", 0x27E9, false}, {"raquo", 0xBB, true},
		{"rarr", 0x2192, false}, {"rdquo", 0x201D, false}, {"reg", 0xAE, true}, {"rlm", 0x200F, false}, {"rsaquo", 0x203A, false},
		{"rsquo", 0x2019, false}, {"sect", 0xA7, true}, {"shy", 0xAD, true}, {"thinsp", 0x2009, false}, {"times", 0xD7, true},
		{"uarr", 0x2191, false}, {"yen", 0xA5, true}, {"zwj", 0x200D, false}, {"zwnj", 0x200C, false},
	}
}

// findName tells the reference by name with which s begins; s has & ahead.
func findName(s string, attr bool) (rune, int, bool) {
	names := allNames()
	for end := min(len("&")+longestName, len(s)); end > len("&"); end-- {
		text := s[len("&"):end]
		i := sort.Search(len(names), func(i int) bool { return text <= names[i].text })
		if i == len(names) || names[i].text != text {
			continue
		}
		if end < len(s) && s[end] == ';' {
			return names[i].character, end + 1, true
		}
		if names[i].bare && !(attr && goesOn(s[end:])) {
			return names[i].character, end, true
		}
	}
	return 0, 0, false
}

// goesOn: does what follows a name in an attribute make it a part of something longer, such as an address's a=1&copy=2?
func goesOn(s string) bool {
	if s == "" {
		return false
	}
	c := s[0]
	return c == '=' || '0' <= c && c <= '9' || 'A' <= c && c <= 'Z' || 'a' <= c && c <= 'z'
}
