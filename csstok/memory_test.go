package csstok_test

import (
	"slices"
	"strings"
	"testing"
	"unsafe"

	"selvedge/csstok"
)

const everything = "a b( @c #d #1 \"e\" 'f\\\ng' 2 3% 4px , : + \\\n <!-- --> \u05D0\\31 /* x */\"h\n"

// spread tells every text of tokens.
func spread(l []csstok.Token) []string {
	var texts []string
	for _, x := range l {
		texts = append(texts, x.Value, x.Unit)
	}
	return texts
}

// lies: do two texts lie in the same memory, in a part of it at least?
func lies(a, b string) bool {
	if a == "" || b == "" {
		return false
	}
	x, y := uintptr(unsafe.Pointer(unsafe.StringData(a))), uintptr(unsafe.Pointer(unsafe.StringData(b)))
	return x <= y && y < x+uintptr(len(a)) || y <= x && x < y+uintptr(len(b))
}

func TestTextsAreNewMemory(t *testing.T) { // P7.3
	s := strings.Clone(everything)
	texts := append(spread(csstok.Tokens(s)), spread(csstok.Tokens(s))...)
	for i, a := range texts {
		if lies(a, s) {
			t.Errorf("%q lies in the text", a)
		}
		for _, b := range texts[:i] {
			if lies(a, b) {
				t.Errorf("%q and %q lie in the same memory", a, b)
			}
		}
	}
}

func TestPrintedIsNewMemory(t *testing.T) { // P7.3
	lists := [][]csstok.Token{csstok.Tokens(everything)}
	for _, x := range samples {
		lists = append(lists, row(x.t))
	}
	for _, l := range lists {
		first, second := csstok.Print(l), csstok.Print(l)
		if first != second || lies(first, second) {
			t.Errorf("printed twice: %q, %q", first, second)
		}
		for _, a := range spread(l) {
			if lies(a, first) {
				t.Errorf("%q lies in what was printed of it, %q", a, first)
			}
		}
	}
}

func TestTokensAreNewMemory(t *testing.T) { // P7.3
	s := strings.Clone(everything)
	first, second := csstok.Tokens(s), csstok.Tokens(s)
	want := slices.Clone(first)
	if len(first) < 14 || !slices.Equal(second, want) {
		t.Fatalf("asked again: %s, not %s", show(second...), show(want...))
	}
	for i := range first[:cap(first)] {
		first[:cap(first)][i] = csstok.Token{Kind: csstok.Bad, Value: "other", Unit: "other", ID: true}
	}
	if s != everything {
		t.Errorf("the text is %q", s)
	}
	if !slices.Equal(second, want) || !slices.Equal(csstok.Tokens(s), want) {
		t.Errorf("another answer has changed: %s", show(second...))
	}
}

func TestArgumentsStay(t *testing.T) { // P7.3
	l := csstok.Tokens(everything)
	for _, x := range samples {
		l = append(l, x.t)
	}
	behind := csstok.Token{Kind: csstok.Text, Value: "behind", Unit: "behind", ID: true}
	l = append(l, csstok.Token{Kind: 77, Value: "\xFF", Unit: "\r", ID: true}, behind)
	before := slices.Clone(l)
	want := csstok.Print(slices.Clone(l[:len(l)-1]))
	if s := csstok.Print(l[:len(l)-1]); s != want {
		t.Errorf("printed %q, not %q", s, want)
	}
	if !slices.Equal(l, before) {
		t.Errorf("the tokens have become %s, not %s", show(l...), show(before...))
	}
}

func TestAnswersAreNotKept(t *testing.T) { // P7.3
	l := csstok.Tokens(everything)
	want := csstok.Print(l)
	kept := strings.Clone(want)
	for i := range l {
		l[i] = ident("other")
	}
	csstok.Print(l)
	csstok.Tokens("another one")
	if want != kept || csstok.Print(csstok.Tokens(everything)) != kept {
		t.Errorf("what was printed has become %q, not %q", want, kept)
	}
}

func TestSameFromSeveralSides(t *testing.T) { // P7.1, P7.2
	want := csstok.Tokens(everything)
	printed := csstok.Print(want)
	answers := make(chan bool)
	for range 16 {
		go func() {
			l := csstok.Tokens(everything)
			answers <- slices.Equal(l, want) && csstok.Print(want) == printed
		}()
	}
	for range 16 {
		if !<-answers {
			t.Error("another goroutine's answer is another one")
		}
	}
}
