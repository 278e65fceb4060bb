package tree_test

import (
	"reflect"
	"slices"
	"strings"
	"testing"
	"unsafe"

	"selvedge/api"
	"selvedge/token"
	"selvedge/tree"
)

const everything = `<!DOCTYPE html><div class="ab cd" id=xyz lang><p dir=rtl>text &lt; text<!-- a comment --> and more<br class=one/>plain<li title='two'>x<li>y</div><hr data-q=three>end`

// everyToken are the tokens of everything, with memory behind their ends that nobody may touch.
func everyToken() []token.Token {
	l, _, _ := token.Tokens(everything)
	for i := range l {
		l[i].Attrs = append(slices.Grow(slices.Clone(l[i].Attrs), 4), api.Attr{Name: "behind"})[:len(l[i].Attrs)]
	}
	return append(slices.Grow(l, 4), token.Token{Name: "behind"})[:len(l)]
}

// whole tells tokens with what lies behind their ends.
func whole(l []token.Token) []token.Token {
	l = slices.Clone(l[:len(l)+1])
	for i := range l {
		if n := len(l[i].Attrs); cap(l[i].Attrs) > n {
			l[i].Attrs = slices.Clone(l[i].Attrs[:n+1])
		}
	}
	return l
}

// put writes over all that a tree has, and behind the ends of its lists.
func put(u api.Tree) {
	u = u[:cap(u)]
	for i := range u {
		putNode(&u[i])
	}
}

func putNode(n *api.Node) {
	attrs, kids := n.Attrs[:cap(n.Attrs)], n.Kids[:cap(n.Kids)]
	for i := range attrs {
		attrs[i] = api.Attr{Name: "other", Value: "other"}
	}
	for i := range kids {
		kids[i] = -7
	}
	n.Kind, n.Name, n.Data, n.Up = 77, "other", "other", -7
}

func wantedTree(t *testing.T) api.Tree {
	t.Helper()
	u, e, _ := buildSecond(everyToken())
	if e != api.OK || len(u) != 12 {
		t.Fatalf("%d nodes, %d", len(u), e)
	}
	return u
}

func TestArgumentsStay(t *testing.T) { // P5.5
	l := everyToken()
	for _, more := range []token.Token{{}, text("x"), start("table"), end("br")} {
		m := append(l[:len(l):len(l)], more, token.Token{Name: "behind"})[:len(l)+1]
		before := whole(m)
		tree.Build(m)
		if !reflect.DeepEqual(whole(m), before) {
			t.Errorf("Build has changed its tokens: %v", m)
		}
	}
	b := append([]byte(everything), "behind"...)
	tree.Parse(b[:len(everything)])
	if string(b) != everything+"behind" {
		t.Errorf("Parse has changed its bytes: %q", b)
	}
	for _, spoil := range []func(u api.Tree){func(api.Tree) {}, func(u api.Tree) { u[10].Up = 1 }, func(u api.Tree) { u[0].Kids = append(u[0].Kids, 7) }, func(u api.Tree) { u[5].Name = "table" }} {
		u, v := spoilt(spoil), spoilt(spoil)
		u, v = append(u, api.Node{Name: "behind"}), append(v, api.Node{Name: "behind"})
		tree.Right(u[:len(u)-1])
		if !reflect.DeepEqual(u, v) {
			t.Errorf("Right has changed its tree: %v", u)
		}
	}
}

func TestAnswersAreNotKept(t *testing.T) { // P5.5
	want := wantedTree(t)
	l := everyToken()
	before := whole(l)
	first, _, _ := tree.Build(l)
	put(first)
	if !reflect.DeepEqual(whole(l), before) {
		t.Errorf("the tokens have changed with the tree: %v", l)
	}
	if second, e, _ := tree.Build(l); e != api.OK || !sameTree(second, want) {
		t.Errorf("built again: %v, %d", second, e)
	}
	b := []byte(everything)
	parsed, _, _ := tree.Parse(b)
	put(parsed)
	if again, e, _ := tree.Parse(b); e != api.OK || !sameTree(again, want) || string(b) != everything {
		t.Errorf("parsed again: %v, %d", again, e)
	}
}

func TestArgumentsAreNotKept(t *testing.T) { // P5.5
	want := wantedTree(t)
	l := everyToken()
	u, _, _ := tree.Build(l)
	for i := range l {
		for j := range l[i].Attrs {
			l[i].Attrs[j] = api.Attr{Name: "other"}
		}
		l[i] = token.Token{Name: "other"}
	}
	if !sameTree(u, want) {
		t.Errorf("the tree has changed with the tokens: %v", u)
	}
	b := []byte(everything)
	v, _, _ := tree.Parse(b)
	for i := range b {
		b[i] = 'z'
	}
	if !sameTree(v, want) {
		t.Errorf("the tree has changed with the bytes: %v", v)
	}
}

func TestNodesShareNoMemory(t *testing.T) { // P5.5
	want := wantedTree(t)
	u, _, _ := tree.Build(everyToken())
	for i := range u {
		putNode(&u[i])
		for j := i + 1; j < len(u); j++ {
			if !sameTree(u[j:j+1], want[j:j+1]) {
				t.Errorf("node %d has changed with node %d: %v", j, i, u[j])
			}
		}
	}
}

// lies: does a part of one text lie where another one does?
func lies(part, in string) bool {
	at, first := uintptr(unsafe.Pointer(unsafe.StringData(part))), uintptr(unsafe.Pointer(unsafe.StringData(in)))
	return part != "" && first <= at && at < first+uintptr(len(in))
}

func textsOf(u api.Tree) []string {
	var l []string
	for _, n := range u {
		l = append(l, n.Name, n.Data)
		for _, a := range n.Attrs {
			l = append(l, a.Name, a.Value)
		}
	}
	return l
}

func TestTextsAreNewMemory(t *testing.T) { // P5.5
	l := everyToken()
	first, _, _ := tree.Build(l)
	second, _, _ := tree.Build(l)
	others := textsOf(second)
	for _, x := range l {
		others = append(others, x.Name, x.Data)
		for _, a := range x.Attrs {
			others = append(others, a.Name, a.Value)
		}
	}
	for i, part := range textsOf(first) {
		for _, other := range append(others, textsOf(first)[:i]...) {
			if lies(part, other) {
				t.Errorf("%q lies in another text: %q", part, other)
			}
		}
	}
	b := []byte(strings.Repeat("a long text ", 100))
	u, _, _ := tree.Parse(b)
	if lies(u[1].Data, unsafe.String(&b[0], len(b))) {
		t.Error("the data lie in the bytes")
	}
}

func TestSameFromSeveralSides(t *testing.T) { // P5.5
	want := wantedTree(t)
	l, b := everyToken(), []byte(everything)
	answers := make(chan api.Tree)
	for range 16 {
		go func() {
			u, _, _ := tree.Build(l)
			answers <- u
			v, _, _ := tree.Parse(b)
			answers <- v
		}()
	}
	for range 32 {
		if u := <-answers; !sameTree(u, want) || tree.Right(u) != api.OK {
			t.Errorf("another goroutine's: %v", u)
		}
	}
}
