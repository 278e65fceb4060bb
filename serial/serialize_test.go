package serial_test

import (
	"strings"
	"testing"

	"selvedge/api"
	"selvedge/serial"
	"selvedge/tree"
)

const (
	blocks    = "div ul ol section article header footer main nav aside blockquote figure"
	notVoid   = blocks + " p li h1 h2 h3 h4 h5 h6 span b i em strong u s small code bdi bdo abbr cite q sub sup mark a"
	voidNames = "br wbr hr"
)

func TestDocumentsOfTheChapter(t *testing.T) { // P6.2
	checkDocument(t, document(element("p", attrs("class", `x"y`), text("1 > 0")), element("br", nil)), `<p class="x&quot;y">1 &gt; 0</p><br>`)
	checkDocument(t, document(text("a < b & c")), "a &lt; b &amp; c")
}

func TestDocuments(t *testing.T) { // P6.2
	checkDocument(t, document(), "")
	checkDocument(t, document(text("x")), "x")
	checkDocument(t, document(element("b", nil)), "<b></b>")
	checkDocument(t, document(element("b", nil), element("b", nil)), "<b></b><b></b>")
	checkDocument(t, document(element("b", nil, element("i", nil), element("u", nil, text("x")))), "<b><i></i><u>x</u></b>")
	checkDocument(t, document(text("a"), element("b", nil, text("b")), text("c")), "a<b>b</b>c")
	checkDocument(t, document(element("p", nil, text("a")), element("p", nil, text("b"))), "<p>a</p><p>b</p>")
	checkDocument(t, document(element("ul", nil, element("li", nil, text("a")), element("li", nil, text("b")))), "<ul><li>a</li><li>b</li></ul>")
	checkDocument(t, document(element("li", nil, element("ul", nil, element("li", nil, element("p", nil))))), "<li><ul><li><p></p></li></ul></li>")
	checkDocument(t, document(text("x"), element("wbr", nil), text("y"), element("hr", nil), text("z")), "x<wbr>y<hr>z")
	checkDocument(t, document(element("div", nil, element("span", nil, text("a"), element("br", nil), text("b")), text("c")), text("d")), "<div><span>a<br>b</span>c</div>d")
	checkDocument(t, document(element("b", nil, element("i", nil, element("u", nil, text("x")), text("y")), text("z"))), "<b><i><u>x</u>y</i>z</b>")
}

func TestEachElement(t *testing.T) { // P6.2
	names := strings.Fields(notVoid)
	if n := len(names) + len(strings.Fields(voidNames)); n != 41 {
		t.Fatalf("%d elements", n)
	}
	with := attrs("id", "x", "class", "a b")
	for _, name := range names {
		checkDocument(t, document(element(name, nil)), "<"+name+"></"+name+">")
		checkDocument(t, document(element(name, nil, text("x"))), "<"+name+">x</"+name+">")
		checkDocument(t, document(element(name, with)), "<"+name+` id="x" class="a b"></`+name+">")
		checkDocument(t, document(element("span", nil, element(name, with, text("x"), element("br", nil)), text("y"))), "<span><"+name+` id="x" class="a b">x<br></`+name+">y</span>")
	}
	for _, name := range strings.Fields(voidNames) {
		checkDocument(t, document(element(name, nil)), "<"+name+">")
		checkDocument(t, document(element(name, with), text("x")), "<"+name+` id="x" class="a b">x`)
		checkDocument(t, document(text("x"), element("b", nil, element(name, nil), element(name, with)), text("y")), "x<b><"+name+"><"+name+` id="x" class="a b"></b>y`)
	}
}

func TestAttributes(t *testing.T) { // P6.2
	checkDocument(t, document(element("p", attrs("a", ""))), `<p a=""></p>`)
	checkDocument(t, document(element("p", []api.Attr{})), `<p></p>`)
	checkDocument(t, document(element("p", attrs("b", "2", "a", "1", "c", "3"))), `<p b="2" a="1" c="3"></p>`)
	checkDocument(t, document(element("p", attrs("data-x_1", "v", "-", "w", "_", "", "0", "y"))), `<p data-x_1="v" -="w" _="" 0="y"></p>`)
	checkDocument(t, document(element("p", attrs("a", "&<>\"'\u00A0\r\n\t \u05D0=`/"), text("&<>\"'\u00A0\r\n\t \u05D0=`/"))), "<p a=\"&amp;<>&quot;'&nbsp;&#13;\n\t \u05D0=`/\">&amp;&lt;&gt;\"'&nbsp;&#13;\n\t \u05D0=`/</p>")
	checkDocument(t, document(element("br", attrs("a", " x ", "b", "/", "c", ">"))), `<br a=" x " b="/" c=">">`)
	var most []api.Attr
	want := "<hr"
	for i := range api.MaxAttrs {
		name := string(rune('a' + i))
		most = append(most, api.Attr{Name: name, Value: name + "\""})
		want += " " + name + `="` + name + `&quot;"`
	}
	checkDocument(t, document(element("hr", most)), want+">")
}

func TestDeepestTree(t *testing.T) { // P6.2
	u := text("x")
	for range api.MaxDepth {
		u = element("b", nil, u)
	}
	checkDocument(t, document(u), strings.Repeat("<b>", api.MaxDepth)+"x"+strings.Repeat("</b>", api.MaxDepth))
	checkRefused(t, "one too deep", document(element("b", nil, u)), api.ErrTree)
}

func TestMostNodes(t *testing.T) { // P6.2
	most, _, _ := tree.Parse([]byte(strings.Repeat("<hr>", api.MaxNodes-1)))
	if len(most) != api.MaxNodes {
		t.Fatalf("%d nodes", len(most))
	}
	checkDocument(t, most, strings.Repeat("<hr>", api.MaxNodes-1))
	more := append(most, api.Node{Kind: api.Element, Name: "hr"})
	more[0].Kids = append(more[0].Kids, api.MaxNodes)
	checkRefused(t, "one node too many", more, api.ErrTree)
}

// good is a tree that is right, made anew.
func good() api.Tree {
	return document(element("ul", attrs("a", "b"), element("li", nil, text("x")), element("li", nil, element("b", nil, text("y")), element("br", nil))), text("z"))
}

func TestTreesThatAreNone(t *testing.T) { // P6.2
	checkDocument(t, good(), `<ul a="b"><li>x</li><li><b>y</b><br></li></ul>z`)
	checkRefused(t, "nil", nil, api.ErrTree)
	checkRefused(t, "empty", api.Tree{}, api.ErrTree)
	checkRefused(t, "zero", api.Tree{{}}, api.ErrTree)
	for what, spoil := range map[string]func(u api.Tree) api.Tree{
		"the document's Up":      func(u api.Tree) api.Tree { u[0].Up = 0; return u },
		"the document's kind":    func(u api.Tree) api.Tree { u[0].Kind = api.Element; return u },
		"the document's data":    func(u api.Tree) api.Tree { u[0].Data = "x"; return u },
		"another Up":             func(u api.Tree) api.Tree { u[2].Up = 0; return u },
		"an Up behind":           func(u api.Tree) api.Tree { u[1].Up = 2; return u },
		"a huge Up":              func(u api.Tree) api.Tree { u[3].Up = 1 << 62; return u },
		"a negative Up":          func(u api.Tree) api.Tree { u[3].Up = -1 << 63; return u },
		"a kid too few":          func(u api.Tree) api.Tree { u[1].Kids = u[1].Kids[:1]; return u },
		"a kid too many":         func(u api.Tree) api.Tree { u[4].Kids = append(u[4].Kids, 8); return u },
		"a kid twice":            func(u api.Tree) api.Tree { u[1].Kids = []int{2, 2}; return u },
		"kids that fall":         func(u api.Tree) api.Tree { u[1].Kids = []int{4, 2}; return u },
		"a kid of itself":        func(u api.Tree) api.Tree { u[3].Kids = []int{3}; return u },
		"a kid past the end":     func(u api.Tree) api.Tree { u[0].Kids[1] = 99; return u },
		"a negative kid":         func(u api.Tree) api.Tree { u[0].Kids[0] = -1; return u },
		"a kid of a void one":    func(u api.Tree) api.Tree { u[5].Name = "br"; return u },
		"no element":             func(u api.Tree) api.Tree { u[2].Name = "table"; return u },
		"no name":                func(u api.Tree) api.Tree { u[2].Name = ""; return u },
		"a kind that is none":    func(u api.Tree) api.Tree { u[2].Kind = 3; return u },
		"a document within":      func(u api.Tree) api.Tree { u[7].Kind = api.Document; return u },
		"an attribute's name":    func(u api.Tree) api.Tree { u[1].Attrs[0].Name = "A"; return u },
		"an attribute of none":   func(u api.Tree) api.Tree { u[1].Attrs[0].Name = ""; return u },
		"a name with a blank":    func(u api.Tree) api.Tree { u[1].Attrs[0].Name = "a b"; return u },
		"an attribute twice":     func(u api.Tree) api.Tree { u[1].Attrs = attrs("a", "", "a", ""); return u },
		"17 attributes":          func(u api.Tree) api.Tree { u[1].Attrs = make([]api.Attr, 17); return u },
		"an ill-formed value":    func(u api.Tree) api.Tree { u[1].Attrs[0].Value = "\xC2"; return u },
		"a value with 0":         func(u api.Tree) api.Tree { u[1].Attrs[0].Value = "\x00"; return u },
		"an empty text":          func(u api.Tree) api.Tree { u[3].Data = ""; return u },
		"an ill-formed text":     func(u api.Tree) api.Tree { u[3].Data = "\xA0"; return u },
		"a text with 0":          func(u api.Tree) api.Tree { u[3].Data = "a\x00"; return u },
		"a text with a name":     func(u api.Tree) api.Tree { u[3].Name = "p"; return u },
		"a text with attributes": func(u api.Tree) api.Tree { u[3].Attrs = attrs("a", ""); return u },
		"an element with data":   func(u api.Tree) api.Tree { u[5].Data = "x"; return u },
		"two texts":              func(u api.Tree) api.Tree { return document(text("a"), text("b")) },
		"a p in a p":             func(u api.Tree) api.Tree { return document(element("p", nil, element("p", nil))) },
		"a div in a p's b":       func(u api.Tree) api.Tree { return document(element("p", nil, element("b", nil, element("div", nil)))) },
		"an a in an a":           func(u api.Tree) api.Tree { return document(element("a", nil, element("a", nil))) },
		"a heading in a heading": func(u api.Tree) api.Tree { return document(element("h1", nil, element("h2", nil))) },
		"a li in a li": func(u api.Tree) api.Tree {
			return document(element("li", nil, element("div", nil, element("li", nil))))
		},
		"no document":         func(u api.Tree) api.Tree { return element("p", nil) },
		"its end alone":       func(u api.Tree) api.Tree { return u[1:] },
		"its beginning alone": func(u api.Tree) api.Tree { return u[:7] },
	} {
		u := spoil(good())
		checkRefused(t, what, u, api.ErrTree)
		// Not right is told ahead of too long.
		if len(u) > 3 && u[3].Kind == api.Text && strings.HasPrefix(u[3].Data, "x") {
			u[3].Data += strings.Repeat("x", api.MaxBytes)
			checkRefused(t, what+", and too long", u, api.ErrTree)
		}
	}
}

// filled makes a tree whose document has just as many bytes, by a text ahead of what is handed in.
func filled(t *testing.T, length int, kids []api.Tree) api.Tree {
	t.Helper()
	bare := len(serializeSecond(document(kids...)))
	u := document(append([]api.Tree{element("u", nil, text(strings.Repeat("x", length-bare-len("<u></u>"))))}, kids...)...)
	if n := len(serializeSecond(u)); n != length || tree.Right(u) != api.OK {
		t.Fatalf("%d bytes, not %d", n, length)
	}
	return u
}

func TestLongestDocument(t *testing.T) { // P6.2
	for _, kids := range [][]api.Tree{
		nil,
		{text("a")}, {text("&")}, {text("\u00A0")}, {text("<>\r")}, {text("\u05D0")}, {text("\"")}, {text(strings.Repeat("&", 1000))},
		{element("br", nil)}, {element("hr", attrs("a", "b"))}, {element("wbr", attrs("a", ""))}, {element("br", attrs("a", "\""))}, {element("br", attrs("a", strings.Repeat("\u00A0", 2000)))},
		{element("b", nil)}, {element("blockquote", attrs("a", "b", "c", "d\"\r"))}, {element("b", nil, text("x"))}, {element("div", nil, element("div", nil, element("div", nil, text("&"))))},
		{element("p", nil), element("p", attrs("a", "")), text("x"), element("br", nil)},
	} {
		u := filled(t, api.MaxBytes, kids)
		checkDocument(t, u, serializeSecond(u))
		checkDocument(t, filled(t, api.MaxBytes-1, kids), serializeSecond(filled(t, api.MaxBytes-1, kids)))
		// Where one byte is too many, each byte of what stands at the end may be the one.
		for more := 1; more < 40; more++ {
			checkRefused(t, "too long", filled(t, api.MaxBytes+more, kids), api.ErrLimit)
		}
	}
}

func TestOneTextOrValueOfMostBytes(t *testing.T) { // P6.2
	long := strings.Repeat("a", api.MaxBytes)
	checkDocument(t, document(text(long)), long)
	checkRefused(t, "a text", document(text(long+"a")), api.ErrLimit)
	for s, ref := range chapterInText {
		times := api.MaxBytes / len(ref)
		rest := strings.Repeat("x", api.MaxBytes-times*len(ref))
		checkDocument(t, document(text(strings.Repeat(s, times)+rest)), strings.Repeat(ref, times)+rest)
		checkRefused(t, ref, document(text(strings.Repeat(s, times)+rest+"x")), api.ErrLimit)
		checkRefused(t, ref, document(text("x"+strings.Repeat(s, times)+rest)), api.ErrLimit)
		checkRefused(t, ref, document(text(strings.Repeat(s, api.MaxBytes/len(s)))), api.ErrLimit)
	}
	for s, ref := range chapterInValue {
		room := api.MaxBytes - len(`<br a="">`)
		times := room / len(ref)
		value := strings.Repeat(s, times) + strings.Repeat("x", room%len(ref))
		u := document(element("br", attrs("a", value)))
		checkDocument(t, u, serializeSecond(u))
		checkRefused(t, ref, document(element("br", attrs("a", value+"x"))), api.ErrLimit)
	}
	// In a value < and > take one byte each.
	value := strings.Repeat("<>", (api.MaxBytes-len(`<q a=""></q>`))/2)
	checkDocument(t, document(element("q", attrs("a", value))), `<q a="`+value+`"></q>`)
	checkRefused(t, "< and >", document(element("q", attrs("a", value+"<"))), api.ErrLimit)
}

func TestFarTooLong(t *testing.T) { // P6.2
	huge := strings.Repeat("&", 1<<24)
	checkRefused(t, "a huge text", document(text(huge)), api.ErrLimit)
	checkRefused(t, "a huge value", document(element("p", attrs("a", huge), text("x"))), api.ErrLimit)
	checkRefused(t, "what is short behind it", document(element("p", nil, text(huge)), element("br", nil), text("x")), api.ErrLimit)
	var l []api.Tree
	for range 3000 {
		l = append(l, element("blockquote", nil))
	}
	checkRefused(t, "many elements", document(l...), api.ErrLimit)
	if s, e := serial.Serialize(document(text(huge + "\x00"))); s != "" || e != api.ErrTree {
		t.Errorf("a huge text with 0: %d bytes, %d", len(s), e)
	}
}
