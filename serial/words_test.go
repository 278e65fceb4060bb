package serial_test

import (
	"math/rand"
	"reflect"
	"strings"
	"testing"

	"selvedge/api"
	"selvedge/serial"
	"selvedge/tree"
)

// The chapter's words once more, by other means: bytes are looked at one by one, and elements are closed by their Up.

// chapterEscaped are the characters that the chapter names, by their bytes.
var (
	chapterInText  = map[string]string{"&": "&amp;", "<": "&lt;", ">": "&gt;", "\xC2\xA0": "&nbsp;", "\r": "&#13;"}
	chapterInValue = map[string]string{"&": "&amp;", "\"": "&quot;", "\xC2\xA0": "&nbsp;", "\r": "&#13;"}
)

func escapeSecond(s string, escaped map[string]string) string {
	var b []byte
	for i := 0; i < len(s); i++ {
		part := s[i : i+1]
		if strings.HasPrefix(s[i:], "\xC2\xA0") {
			part = "\xC2\xA0"
			i++
		}
		if ref, ok := escaped[part]; ok {
			part = ref
		}
		b = append(b, part...)
	}
	return string(b)
}

var voids = map[string]bool{"br": true, "wbr": true, "hr": true}

// serializeSecond writes a right tree's document, however long.
func serializeSecond(t api.Tree) string {
	var b strings.Builder
	open := 0
	closeTo := func(node int) {
		for ; open != node; open = t[open].Up {
			if !voids[t[open].Name] {
				b.WriteString("</" + t[open].Name + ">")
			}
		}
	}
	for i := 1; i < len(t); i++ {
		closeTo(t[i].Up)
		if t[i].Kind == api.Text {
			b.WriteString(escapeSecond(t[i].Data, chapterInText))
			continue
		}
		b.WriteString("<" + t[i].Name)
		for _, a := range t[i].Attrs {
			b.WriteString(" " + a.Name + "=\"" + escapeSecond(a.Value, chapterInValue) + "\"")
		}
		b.WriteString(">")
		open = i
	}
	closeTo(0)
	return b.String()
}

// Trees by hand, in few words: what is made stands in its own list of nodes, and graft joins such lists.

func text(data string) api.Tree { return api.Tree{{Kind: api.Text, Data: data}} }

func element(name string, attrs []api.Attr, kids ...api.Tree) api.Tree {
	return graft(api.Node{Kind: api.Element, Name: name, Attrs: attrs}, kids)
}

func document(kids ...api.Tree) api.Tree {
	return graft(api.Node{Kind: api.Document, Up: -1}, kids)
}

func attrs(parts ...string) []api.Attr {
	var l []api.Attr
	for i := 0; i < len(parts); i += 2 {
		l = append(l, api.Attr{Name: parts[i], Value: parts[i+1]})
	}
	return l
}

// graft puts lists of nodes below one node; the numbers in a list count from its own first node.
func graft(top api.Node, lists []api.Tree) api.Tree {
	t := api.Tree{top}
	for _, l := range lists {
		first := len(t)
		t[0].Kids = append(t[0].Kids, first)
		for i, n := range l {
			if n.Up += first; i == 0 {
				n.Up = 0
			}
			n.Kids = append([]int(nil), n.Kids...)
			for j := range n.Kids {
				n.Kids[j] += first
			}
			t = append(t, n)
		}
	}
	return t
}

// sameTree counts nil and empty lists as one, since they mean the same.
func sameTree(a, b api.Tree) bool { return reflect.DeepEqual(plain(a), plain(b)) }

func plain(t api.Tree) api.Tree {
	var l api.Tree
	for _, n := range t {
		if len(n.Attrs) == 0 {
			n.Attrs = nil
		}
		if len(n.Kids) == 0 {
			n.Kids = nil
		}
		l = append(l, n)
	}
	return l
}

// checkDocument asks for a right tree's document, and that it is parsed as the same tree.
func checkDocument(t *testing.T, u api.Tree, want string) {
	t.Helper()
	got, e := serial.Serialize(u)
	if e != api.OK || got != want {
		t.Errorf("the document of %.300v is %.300q, %d, not %.300q", u, got, e, want)
		return
	}
	if v, e, at := tree.Parse([]byte(got)); e != api.OK || !sameTree(u, v) {
		t.Errorf("%.300q is parsed as %.300v, %d at %d, not %.300v", got, v, e, at, u)
	}
	if second := serializeSecond(u); got != second {
		t.Errorf("the document of %.300v is %.300q, by the second way %.300q", u, got, second)
	}
}

func checkRefused(t *testing.T, what string, u api.Tree, want api.Errno) {
	t.Helper()
	if s, e := serial.Serialize(u); s != "" || e != want {
		t.Errorf("%s: %.100q, %d, not %d", what, s, e, want)
	}
}

// telling are the parts of which random texts and values are made: what is escaped, what looks like it, and what a parser would look at.
var telling = []string{
	"&", "<", ">", "\"", "\u00A0", "\r", "\n", "\t", "\f", " ", "'", "=", "/", "`", ";", "#", "-", "!", "a", "p", "1", "\u00C2", "\u05D0", "\u0080", "\u009F", "\u00A1", "\u20A0", "\uFFFD", "\uFEFF", "\U0001F600", "\U0010FFFF", "\x01", "\x7F",
	"&amp;", "&lt", "&nbsp;", "&#13;", "&#", "&#x", "amp;", "copy=", "&copy", "\r\n", "\n\r", "</p>", "<p>", "<b a=\"", "<!--", "-->", "<?", "<!", "]]>", "<br/>", "/>", "\">",
}

// randomText is well-formed, and has no character 0.
func randomText(random *rand.Rand, most int) string {
	var b strings.Builder
	for range random.Intn(most + 1) {
		b.WriteString(telling[random.Intn(len(telling))])
	}
	return b.String()
}
