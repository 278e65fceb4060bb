package token_test

import (
	"strings"
	"testing"
	"unsafe"

	"selvedge/api"
	"selvedge/token"
)

const everything = `<!DOCTYPE html5 ><p class="ab cd" id=xyz data-q='&amp;&amp;' lang>text &lt; text</p><!-- a comment --><br class=one/>plain text<q cite="one two" title=three>`

// put writes over a token's attributes, and behind their end.
func put(l []token.Token) {
	for i := range l {
		attrs := l[i].Attrs[:cap(l[i].Attrs)]
		for j := range attrs {
			attrs[j] = api.Attr{Name: "other", Value: "other"}
		}
		l[i].Name, l[i].Data = "other", "other"
	}
	more := l[:cap(l)]
	for i := len(l); i < len(more); i++ {
		more[i] = token.Token{Name: "other"}
	}
}

func TestAnswersAreNewMemory(t *testing.T) { // P4.2
	s := strings.Clone(everything)
	first, _, _ := token.Tokens(s)
	want, _, _ := token.Tokens(everything)
	put(first)
	if s != everything {
		t.Errorf("the text is %q", s)
	}
	second, e, place := token.Tokens(s)
	if e != api.OK || place != 0 || !sameTokens(second, want) || len(second) != 8 {
		t.Errorf("asked again: %v, %d, %d", second, e, place)
	}
}

func TestTokensShareNoMemory(t *testing.T) { // P4.2
	l, _, _ := token.Tokens(everything)
	want, _, _ := token.Tokens(everything)
	for i := range l {
		put(l[i : i+1 : i+1])
		for j := i + 1; j < len(l); j++ {
			if !same(l[j], want[j]) {
				t.Errorf("token %d has changed with token %d: %v", j, i, l[j])
			}
		}
	}
}

func TestTextsAreNewMemory(t *testing.T) { // P4.2
	s := strings.Clone(everything)
	first := uintptr(unsafe.Pointer(unsafe.StringData(s)))
	check := func(part string) {
		at := uintptr(unsafe.Pointer(unsafe.StringData(part)))
		if part != "" && first <= at && at < first+uintptr(len(s)) {
			t.Errorf("%q lies in what was handed in", part)
		}
	}
	l, _, _ := token.Tokens(s)
	for _, x := range l {
		check(x.Name)
		check(x.Data)
		for _, a := range x.Attrs {
			check(a.Name)
			check(a.Value)
		}
	}
}

func TestSameFromSeveralSides(t *testing.T) { // P4.2
	want, _, _ := token.Tokens(everything)
	answers := make(chan []token.Token)
	for range 16 {
		go func() {
			l, _, _ := token.Tokens(everything)
			answers <- l
		}()
	}
	for range 16 {
		if l := <-answers; !sameTokens(l, want) {
			t.Errorf("another goroutine's: %v", l)
		}
	}
}
