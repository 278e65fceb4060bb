package serial

import (
	"strings"
	"unicode/utf8"
)

// escape puts a reference for each character for which one is told. All else stays byte by byte, what is ill-formed too.
func escape(s string, reference func(r rune) string) string {
	var text strings.Builder
	done := 0
	for i, r := range s {
		if ref := reference(r); ref != "" {
			text.WriteString(s[done:i])
			text.WriteString(ref)
			done = i + utf8.RuneLen(r)
		}
	}
	text.WriteString(s[done:])
	return text.String()
}

func inText(r rune) string {
	switch r {
	case '<':
		return "&lt;"
	case '>':
		return "&gt;"
	}
	return everywhere(r)
}

func inValue(r rune) string {
	if r == '"' {
		return "&quot;"
	}
	return everywhere(r)
}

func everywhere(r rune) string {
	switch r {
	case '&':
		return "&amp;"
	case 160:
		return "&nbsp;"
	case 13: // by itself it would be read as a line's end, which is the character 10
		return "&#13;"
	}
	return ""
}
