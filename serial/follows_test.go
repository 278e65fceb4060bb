package serial_test

import (
	"math/rand"
	"reflect"
	"strings"
	"testing"

	"selvedge/api"
	"selvedge/serial"
	"selvedge/tree"
)

var someNames = strings.Fields("b i span div ul li p a h1 br hr q section div b span wbr")

// randomTree is right as often as not.
func randomTree(random *rand.Rand) api.Tree {
	t := api.Tree{{Kind: api.Document, Up: -1}}
	up := 0
	for range random.Intn(16) {
		n := api.Node{Kind: api.Text, Data: randomText(random, 6), Up: up}
		if k := random.Intn(5); k < 2 {
			n = api.Node{Kind: api.Element, Name: someNames[random.Intn(len(someNames))], Attrs: randomAttrs(random), Up: up}
		} else if k == 2 && up > 0 {
			up = t[up].Up
			continue
		}
		last := len(t) - 1
		if n.Kind == api.Text && (n.Data == "" || t[last].Kind == api.Text && t[last].Up == up) {
			continue
		}
		t[up].Kids = append(t[up].Kids, len(t))
		t = append(t, n)
		if n.Kind == api.Element && !voids[n.Name] {
			up = len(t) - 1
		}
	}
	return t
}

func randomAttrs(random *rand.Rand) []api.Attr {
	var l []api.Attr
	for i, name := range []string{"a", "data-x", "_", "id0"} {
		if random.Intn(3+i) == 0 {
			l = append(l, api.Attr{Name: name, Value: randomText(random, 6)})
		}
	}
	return l
}

func TestWhatIsSerializedIsParsedAsTheSameTree(t *testing.T) { // P6.3
	random := rand.New(rand.NewSource(63))
	right := 0
	for range 100000 {
		u := randomTree(random)
		if tree.Right(u) != api.OK {
			checkRefused(t, "no tree", u, api.ErrTree)
			continue
		}
		right++
		checkDocument(t, u, serializeSecond(u))
		if t.Failed() {
			return
		}
	}
	if right < 30000 {
		t.Errorf("only %d trees are right", right)
	}
}

// checkAgain asks that a document's tree is serialized, and that what comes of it is the same tree and the same document; false, if it has no tree.
func checkAgain(t *testing.T, document string) bool {
	t.Helper()
	u, e, _ := tree.Parse([]byte(document))
	if e != api.OK {
		return false
	}
	s, e := serial.Serialize(u)
	if want := serializeSecond(u); len(want) > api.MaxBytes {
		checkRefused(t, "too long", u, api.ErrLimit)
		return true
	} else if e != api.OK || s != want {
		t.Errorf("%q: %q, %d, not %q", document, s, e, want)
	}
	v, e, at := tree.Parse([]byte(s))
	if e != api.OK || !reflect.DeepEqual(u, v) {
		t.Errorf("%q: %q is parsed as %v, %d at %d, not %v", document, s, v, e, at, u)
	}
	if again, e := serial.Serialize(v); e != api.OK || again != s {
		t.Errorf("%q: serialized again %q, %d, not %q", document, again, e, s)
	}
	return true
}

func TestWhatWasParsedIsTheSameAgain(t *testing.T) { // P6.3
	for _, x := range [][2]string{
		{"<p>a<p>b", "<p>a</p><p>b</p>"},
		{"<UL><LI ID=x>a<li>b</UL>", `<ul><li id="x">a</li><li>b</li></ul>`},
		{"<!doctype html><!-- x --><p title='a\r\n&#13;'>a\rb<p>c", "<p title=\"a\n&#13;\">a\nb</p><p>c</p>"},
		{"<b>x<br/>y</b><hr />z", "<b>x<br>y</b><hr>z"},
		{"&nbsp;&#160;&#xA0;\u00A0&copy;&lt;&gt;&quot;&#13;&#0;\xFF", "&nbsp;&nbsp;&nbsp;&nbsp;\u00A9&lt;&gt;\"&#13;\uFFFD\uFFFD"},
		{"<p a='\"' b=\"'\" c=&quot; d e='<'>", `<p a="&quot;" b="'" c="&quot;" d="" e="<"></p>`},
		{"1 < 2 & 3", "1 &lt; 2 &amp; 3"},
		{"&amp;lt; &amp;", "&amp;lt; &amp;"},
		{"<ol><li><p>a<li><p>b</ol>c<div><p>d</div>", "<ol><li><p>a</p></li><li><p>b</p></li></ol>c<div><p>d</p></div>"},
		{"", ""},
	} {
		u, e, _ := tree.Parse([]byte(x[0]))
		if e != api.OK {
			t.Errorf("%q: %d", x[0], e)
			continue
		}
		checkDocument(t, u, x[1])
		checkAgain(t, x[0])
	}
}

func TestRandomDocumentsAgain(t *testing.T) { // P6.3
	parts := append([]string{"<p>", "</p>", "<li>", "</li>", "<ul>", "</ul>", "<div>", "</div>", "<b>", "</b>", "<br>", "<hr/>", "<p a=b>", "<b a='\"&' c>", "<i class=\"'&amp;&#13;\r\">", "</i>", "<!-- x -->", "\xFF", "\xC2", "\xA0", "&#0;", "&#160;", "x", "y"}, telling...)
	random := rand.New(rand.NewSource(64))
	parsed := 0
	for i := range 200000 {
		var b strings.Builder
		for range random.Intn(3 + i%8) {
			b.WriteString(parts[random.Intn(len(parts))])
		}
		if checkAgain(t, b.String()) {
			parsed++
		}
		if t.Failed() {
			return
		}
	}
	if parsed < 50000 {
		t.Errorf("only %d were parsed", parsed)
	}
}

func TestWhatWasParsedMayBeTooLong(t *testing.T) { // P6.3
	for _, s := range []string{strings.Repeat("&", api.MaxBytes), strings.Repeat(">", api.MaxBytes), strings.Repeat("<p>", api.MaxNodes-1), strings.Repeat("\u00A0", api.MaxBytes/2)} {
		if !checkAgain(t, s) {
			t.Errorf("%.10q: not parsed", s)
		}
		u, _, _ := tree.Parse([]byte(s))
		checkRefused(t, s[:1], u, api.ErrLimit)
	}
}

// checkJustThatText asks that a text, escaped, is parsed as that text within each element that is not void; and by itself.
func checkJustThatText(t *testing.T, s string, names []string) {
	t.Helper()
	escaped := serial.Escape(s)
	u, e, _ := tree.Parse([]byte(escaped))
	if e != api.OK || !sameTree(u, document(text(s))) {
		t.Errorf("%.100q, escaped %.100q, is %.100v, %d", s, escaped, u, e)
	}
	for _, name := range names {
		u, e, _ := tree.Parse([]byte("<" + name + ">" + escaped + "</" + name + ">"))
		if e != api.OK || !sameTree(u, document(element(name, nil, text(s)))) {
			t.Errorf("%.100q, escaped %.100q, is in %s %.100v, %d", s, escaped, name, u, e)
		}
	}
}

func TestEscapedTextIsJustThatText(t *testing.T) { // P6.3
	names := strings.Fields(notVoid)
	for _, s := range telling {
		checkJustThatText(t, s, names)
	}
	for _, s := range []string{" ", "\n", "\n\n", "\r\n", "\n\r", " x ", "</p>", "<!doctype html>", "<!-- x -->", "&lt;", "&amp;amp;", "&#13;", "&nbsp", "a\rb\r", "<p a=\"b\">", "&", "&&", "<", "<<"} {
		checkJustThatText(t, s, names)
	}
	random := rand.New(rand.NewSource(65))
	for range 2000 {
		if s := randomText(random, 10); s != "" {
			checkJustThatText(t, s, names)
		}
	}
}

func TestEachCharacterEscapedIsThatCharacter(t *testing.T) { // P6.3
	const atOnce = 2048
	var l []rune
	for r := rune(1); r <= 0x10FFFF; r++ {
		if r < 0xD800 || r > 0xDFFF {
			l = append(l, r)
		}
		if len(l) < atOnce && r < 0x10FFFF {
			continue
		}
		s := string(l)
		checkJustThatText(t, s, []string{"p"})
		u := document(element("br", attrs("a", s)))
		checkDocument(t, u, `<br a="`+serial.EscapeAttr(s)+`">`)
		l = l[:0]
	}
}
