package token_test

import (
	"math/rand"
	"regexp"
	"slices"
	"strings"
	"testing"

	"selvedge/api"
	"selvedge/charref"
	"selvedge/token"
)

// A second reader of another build: tags byte by byte by states, all else by patterns; it follows the chapter's words alone.

type state int

const (
	inName state = iota
	between
	behindSlash
	inAttribute
	behindAttribute
	behindEqual
	inQuoted
	inUnquoted
	ended
)

type machine struct {
	state     state
	tag       token.Token
	attribute api.Attr
	quote     byte
	e         api.Errno
}

var (
	tagPattern       = regexp.MustCompile(`^[A-Za-z0-9]+$`)
	attributePattern = regexp.MustCompile(`^[A-Za-z0-9_-]+$`)
	unquotedPattern  = regexp.MustCompile("^[^\"'<=\x60]+$")
	commentPattern   = regexp.MustCompile(`(?s)^<!--(.*?)-->`)
	wrongComment     = regexp.MustCompile(`(?s)^>|^->|--!>|<!--|<!-$`)
	doctypePattern   = regexp.MustCompile(`(?s)^<!(?i:doctype)[\t\n\f ]*([^>]*?)[\t\n\f ]*>`)
	textPattern      = regexp.MustCompile(`(?s)^(?:[^<]|<[^A-Za-z/!?]|<$)`)
)

func isBlank(b byte) bool { return b == 9 || b == 10 || b == 12 || b == 32 }

// attributeEnds is asked where an attribute has been read whole.
func (m *machine) attributeEnds() {
	if m.tag.Attrs = append(m.tag.Attrs, m.attribute); len(m.tag.Attrs) > 16 && m.e == api.OK {
		m.e = api.ErrLimit
	}
	m.attribute = api.Attr{}
	m.state = between
}

// nameEnds is asked where an attribute's name ends.
func (m *machine) nameEnds() {
	if !attributePattern.MatchString(m.attribute.Name) {
		m.e = api.ErrAttr
	}
	m.attribute.Name = strings.Map(func(r rune) rune {
		if 'A' <= r && r <= 'Z' {
			return r + 32
		}
		return r
	}, m.attribute.Name)
	m.state = behindAttribute
}

// repeated is asked once a value has been found right: names are held against each other behind it.
func (m *machine) repeated() bool {
	return slices.ContainsFunc(m.tag.Attrs, func(a api.Attr) bool { return a.Name == m.attribute.Name })
}

func (m *machine) valueEnds() {
	if m.repeated() {
		m.e = api.ErrAttr
	}
	m.attribute.Value = charref.Decode(m.attribute.Value, true)
	m.attributeEnds()
}

func (m *machine) unquotedEnds() {
	if !unquotedPattern.MatchString(m.attribute.Value) {
		m.e = api.ErrAttr
	}
	m.valueEnds()
}

// step takes one byte; false: it is to be taken once more.
func (m *machine) step(b byte) bool {
	switch m.state {
	case inName:
		if isBlank(b) || b == '/' || b == '>' {
			if !tagPattern.MatchString(m.tag.Name) {
				m.e = api.ErrTag
			}
			m.tag.Name = strings.ToLower(m.tag.Name)
			m.state = between
			return false
		}
		m.tag.Name += string([]byte{b})
	case between:
		return m.stepBetween(b)
	case behindSlash:
		if b != '>' {
			m.e = api.ErrTag
		}
		m.tag.Self, m.state = true, ended
	case inAttribute:
		if isBlank(b) || b == '=' || b == '/' || b == '>' {
			m.nameEnds()
			return false
		}
		m.attribute.Name += string([]byte{b})
	case behindAttribute:
		if b == '=' {
			m.state = behindEqual
		} else if !isBlank(b) {
			m.valueEnds()
			return false
		}
	default:
		return m.stepValue(b)
	}
	return true
}

func (m *machine) stepBetween(b byte) bool {
	switch {
	case isBlank(b):
	case b == '>':
		m.state = ended
	case b == '/':
		m.state = behindSlash
	default:
		m.state = inAttribute
		return false
	}
	return true
}

func (m *machine) stepValue(b byte) bool {
	switch {
	case m.state == behindEqual && isBlank(b):
	case m.state == behindEqual && (b == '"' || b == '\''):
		m.state, m.quote = inQuoted, b
	case m.state == behindEqual:
		m.state = inUnquoted
		return false
	case m.state == inQuoted && b == m.quote:
		m.valueEnds()
	case m.state == inUnquoted && (isBlank(b) || b == '>'):
		m.unquotedEnds()
		return false
	default:
		m.attribute.Value += string([]byte{b})
	}
	return true
}

// stop is asked where the text ends within the tag.
func (m *machine) stop() {
	switch m.state {
	case inName, between, behindSlash:
		m.e = api.ErrTag
	case inAttribute:
		m.nameEnds()
	case inQuoted:
		m.e = api.ErrAttr
	case behindEqual, inUnquoted:
		m.unquotedEnds()
	}
	if m.e == api.OK && m.state == behindAttribute {
		m.valueEnds()
	}
	if m.e == api.OK {
		m.e = api.ErrTag
	}
}

// tagIn reads the tag with which s begins; how many bytes it has.
func tagIn(s string) (token.Token, api.Errno, int) {
	m, i := &machine{tag: token.Token{Kind: token.Start}}, 1
	if s[1] == '/' {
		m.tag.Kind, i = token.End, 2
		if i == len(s) || !tagPattern.MatchString(s[2:3]) || '0' <= s[2] && s[2] <= '9' {
			return token.Token{}, api.ErrTag, 0
		}
	}
	for m.state != ended && m.e == api.OK {
		if i == len(s) {
			m.stop()
			break
		}
		if m.step(s[i]) {
			i++
		}
	}
	if m.e == api.OK && m.tag.Kind == token.End && (m.tag.Self || len(m.tag.Attrs) > 0) {
		m.e = api.ErrTag
	}
	return m.tag, m.e, i
}

// oneIn reads the token with which s begins, a text character by character.
func oneIn(s string) (token.Token, api.Errno, int) {
	n := 0
	for {
		found := textPattern.FindString(s[n:])
		if found == "" {
			break
		}
		n++
	}
	switch {
	case n > 0:
		return text(charref.Decode(s[:n], false)), api.OK, n
	case s[1] != '!' && s[1] != '?':
		return tagIn(s)
	}
	if found := commentPattern.FindStringSubmatch(s); found != nil && !wrongComment.MatchString(found[1]) {
		return comment(found[1]), api.OK, len(found[0])
	}
	if found := doctypePattern.FindStringSubmatch(s); found != nil {
		return doctype(found[1]), api.OK, len(found[0])
	}
	return token.Token{}, api.ErrMark, 0
}

func tokensIn(s string) ([]token.Token, api.Errno, int) {
	for i := range len(s) {
		if s[i] == 0 {
			return nil, api.ErrNull, i
		}
	}
	var l []token.Token
	for place := 0; place < len(s); {
		one, e, n := oneIn(s[place:])
		if e != api.OK {
			return nil, e, place
		}
		l = append(l, one)
		place += n
	}
	return l, api.OK, 0
}

func checkAgainstMachine(t *testing.T, s string) api.Errno {
	t.Helper()
	l, e, place := token.Tokens(s)
	wantList, wantE, wantPlace := tokensIn(s)
	if e != wantE || place != wantPlace || !sameTokens(l, wantList) {
		t.Fatalf("Tokens(%q) is %v, %d, %d, not %v, %d, %d", s, l, e, place, wantList, wantE, wantPlace)
	}
	checkWhatFollows(t, s, l)
	return e
}

// checkWhatFollows: P4.3, and fields without a meaning.
func checkWhatFollows(t *testing.T, s string, l []token.Token) {
	t.Helper()
	for i, x := range l {
		if i > 0 && x.Kind == token.Text && l[i-1].Kind == token.Text {
			t.Fatalf("Tokens(%q): two texts, %q and %q", s, l[i-1].Data, x.Data)
		}
		tag := x.Kind == token.Start || x.Kind == token.End
		if tag != (x.Name != "") || tag && x.Data != "" || x.Kind != token.Start && (x.Self || len(x.Attrs) > 0) || x.Kind == token.Text && x.Data == "" {
			t.Fatalf("Tokens(%q): %v", s, x)
		}
		names := map[string]bool{x.Name: true}
		for _, a := range x.Attrs {
			if names[" "+a.Name] {
				t.Fatalf("Tokens(%q): %q twice", s, a.Name)
			}
			names[" "+a.Name], names[a.Name] = true, true
		}
		for name := range names {
			if strings.ContainsAny(name, "ABCDEFGHIJKLMNOPQRSTUVWXYZ") {
				t.Fatalf("Tokens(%q): %q is not small", s, name)
			}
		}
	}
}

// eachText goes over all texts of at most n of these parts.
func eachText(parts []string, n int, visit func(s string)) {
	var grow func(s string, n int)
	grow = func(s string, n int) {
		visit(s)
		if n == 0 {
			return
		}
		for _, part := range parts {
			grow(s+part, n-1)
		}
	}
	grow("", n)
}

func TestShortTextsAgainstAMachine(t *testing.T) { // P4.1, P4.3
	eachText([]string{"<", "/", ">", "a", " ", "!", "-", "="}, 5, func(s string) { checkAgainstMachine(t, s) })
	eachText([]string{"a", "B", "=", " ", "/", ">", "\"", "'", "<"}, 4, func(s string) {
		checkAgainstMachine(t, "<p "+s)
		checkAgainstMachine(t, "<p "+s+">")
		checkAgainstMachine(t, "</p "+s+">")
		checkAgainstMachine(t, "<p a="+s+">")
		checkAgainstMachine(t, "x<p a"+s+">b=\"'>")
	})
	eachText([]string{"-", ">", "!", "<", "x", "<!--"}, 4, func(s string) {
		checkAgainstMachine(t, "<!"+s)
		checkAgainstMachine(t, "<!--"+s+"-->")
		checkAgainstMachine(t, "<!--"+s+"--> -->")
		checkAgainstMachine(t, "<!doctype"+s)
	})
}

func TestTextsAgainstAMachine(t *testing.T) { // P4.1, P4.3
	parts := []string{
		"<", "</", "<!", "<!--", "-->", "--!>", "<?", "<p", "<p ", "<P>", "</p", "</p>", "<b1", ">", "/", "/>", "=", "=", "\"", "'", "=\"x\"", "='y'", "=z", "a", "A", "b", "C-d", "_", "9", "$", " ", "\t", "\n", "\f", "\r", "\v",
		"&lt;", "&amp", "&copy=", "&#65;", "<!doctype", "<!DOCTYPE html>", "<!-- x -->", "<br/>", "<p a>", "-", "!", "?", "\x60", "\u05D0", "\xFF", "\u212A", "x < y", attributes(16, ""), attributes(15, "=v"), attributes(17, "=''"), "\x00",
	}
	right := parts[:len(parts)-1]
	choose := rand.New(rand.NewSource(4))
	count := map[api.Errno]int{}
	for i := range 60000 {
		from := right
		if i%50 == 0 {
			from = parts
		}
		s := ""
		for range choose.Intn(12) {
			s += from[choose.Intn(len(from))]
		}
		count[checkAgainstMachine(t, s)]++
	}
	for _, e := range []api.Errno{api.OK, api.ErrTag, api.ErrAttr, api.ErrLimit, api.ErrMark, api.ErrNull} {
		if count[e] < 50 {
			t.Errorf("error %d only %d times", e, count[e])
		}
	}
}

// markup tells a text of which most tokens are right, and what may be off in it.
func markup(choose *rand.Rand) string {
	pick := func(l ...string) string { return l[choose.Intn(len(l))] }
	s := ""
	for range choose.Intn(6) {
		switch choose.Intn(6) {
		case 0, 1:
			s += "<" + pick("p", "P", "h1", "span", "a")
			for range choose.Intn(4) {
				s += pick(" ", "\n", "  ") + pick("a", "B", "c-d", "_e", "f1", "g", "h", "i") + pick("", "", "=x", " = y", "='&lt;'", "=\"q r\"", "= '>'", "=/z", "=&copy;")
			}
			s += pick(">", ">", " >", "/>", " />", "\t/>")
		case 2:
			s += "</" + pick("p", "H1", "span") + pick(">", ">", " >", "\n>")
		case 3:
			s += pick("<!--", "<!-- ", "<!---") + pick("", "x", "<", "--", "-", "&lt;") + "-->"
		case 4:
			s += "<!" + pick("doctype", "DOCTYPE", "docType") + pick("", " html", "x ") + ">"
		default:
			s += pick("x", "a < b", "&amp;", "&lt", "\u05D0", "<", " ", "&unknown;")
		}
	}
	return s
}

func TestMarkupAgainstAMachine(t *testing.T) { // P4.1, P4.3
	choose := rand.New(rand.NewSource(5))
	right := 0
	for range 40000 {
		s := markup(choose)
		if checkAgainstMachine(t, s) == api.OK {
			right++
		}
		if len(s) > 0 { // and with a byte that is another one
			i := choose.Intn(len(s))
			const bytes = "<>/= \"'!-?aB$&;\x00\x60\r"
			j := choose.Intn(len(bytes))
			checkAgainstMachine(t, s[:i]+bytes[j:j+1]+s[i+1:])
			checkAgainstMachine(t, s[:i]+s[i+1:])
			checkAgainstMachine(t, s[:i])
		}
	}
	if right < 10000 {
		t.Errorf("only %d texts are right", right)
	}
}
