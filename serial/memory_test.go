package serial_test

import (
	"reflect"
	"strings"
	"testing"
	"unsafe"

	"selvedge/api"
	"selvedge/serial"
)

// spare gives each list of a tree memory behind its end that nobody may touch.
func spare(u api.Tree) api.Tree {
	u = append(u, api.Node{Name: "behind"})[:len(u)]
	for i := range u {
		u[i].Attrs = append(u[i].Attrs, api.Attr{Name: "behind"})[:len(u[i].Attrs)]
		u[i].Kids = append(u[i].Kids, -7)[:len(u[i].Kids)]
	}
	return u
}

// whole tells a tree with what lies behind the ends of its lists.
func whole(u api.Tree) api.Tree {
	l := append(api.Tree(nil), u[:len(u)+1]...)
	for i, n := range u {
		l[i].Attrs = append([]api.Attr(nil), n.Attrs[:len(n.Attrs)+1]...)
		l[i].Kids = append([]int(nil), n.Kids[:len(n.Kids)+1]...)
	}
	return l
}

func TestArgumentsStay(t *testing.T) { // P6.2: a rule that holds everywhere
	tooLong := good()
	tooLong[3].Data = strings.Repeat("&", api.MaxBytes)
	notRight := good()
	notRight[1].Kids = []int{4, 2}
	for _, u := range []api.Tree{good(), document(), tooLong, notRight} {
		u = spare(u)
		before := whole(u)
		first, e := serial.Serialize(u)
		if !reflect.DeepEqual(whole(u), before) {
			t.Errorf("the tree has changed: %.300v", u)
		}
		if second, f := serial.Serialize(u); first != second || e != f {
			t.Errorf("asked again: %.100q, %d, not %.100q, %d", second, f, first, e)
		}
	}
}

func TestAnswersAreNotKept(t *testing.T) { // P6.2: a rule that holds everywhere
	u := good()
	s, _ := serial.Serialize(u)
	want := strings.Clone(s)
	for i := range u {
		u[i] = api.Node{Kind: api.Text, Data: "other", Up: -7}
	}
	serial.Serialize(document(text("another one")))
	serial.Serialize(nil)
	if s != want {
		t.Errorf("the document has become %q", s)
	}
	if again, e := serial.Serialize(good()); e != api.OK || again != want {
		t.Errorf("asked again: %q, %d", again, e)
	}
}

// lies: does one text begin where another one lies, or the other way about?
func lies(a, b string) bool {
	if a == "" || b == "" {
		return false
	}
	x, y := uintptr(unsafe.Pointer(unsafe.StringData(a))), uintptr(unsafe.Pointer(unsafe.StringData(b)))
	return x <= y && y < x+uintptr(len(a)) || y <= x && x < y+uintptr(len(b))
}

func TestAnswersAreNewMemory(t *testing.T) { // P6.1, P6.2: a rule that holds everywhere
	for _, s := range []string{"nothing to escape", "a", "a & b", "& at its beginning", "at its end &", "&", "\u00A0", "\xC2"} {
		s = strings.Clone(s)
		for _, call := range []func(string) string{serial.Escape, serial.EscapeAttr} {
			first, second := call(s), call(s)
			if lies(first, s) || lies(second, s) || lies(first, second) {
				t.Errorf("%q: what is answered lies in other memory", s)
			}
			if lies(call(first), first) {
				t.Errorf("%q: escaped twice, it lies where it lay", s)
			}
		}
		if strings.Contains(s, "\xC2") && s != "\u00A0" {
			continue
		}
		u := document(text(s))
		first, _ := serial.Serialize(u)
		second, _ := serial.Serialize(u)
		if lies(first, s) || lies(second, s) || lies(first, second) {
			t.Errorf("%q: the document lies in other memory", s)
		}
	}
}

func TestSameFromSeveralSides(t *testing.T) { // P6.1, P6.2
	u := good()
	want, _ := serial.Serialize(good())
	answers := make(chan string)
	for range 16 {
		go func() {
			s, _ := serial.Serialize(u)
			answers <- s
			answers <- serial.Escape("<&>") + serial.EscapeAttr("\"&\"")
		}()
	}
	for range 32 {
		if s := <-answers; s != want && s != "&lt;&amp;&gt;&quot;&amp;&quot;" {
			t.Errorf("another goroutine's: %q", s)
		}
	}
}
