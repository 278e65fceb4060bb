package cssparse_test

import (
	"reflect"
	"strings"
	"testing"
	"unsafe"

	"selvedge/api"
	"selvedge/cssparse"
)

const (
	sheet = `aa.bb.cc#dd#ee[ff][GG="hh"]>ii jj,KK.ll+mm[nn=oo],*{PP:qq rr!important;ss:"tt"}uu,vv#ww[xx=yy]{zz:ab(ac,1px)}ad.ae{}`
	style = `aa:bb;CC:"dd" ee(ff)!important;gg:hh`
	row   = `aa.bb.cc#dd#ee[ff][GG="hh"]>ii jj,KK.ll+mm[nn=oo],*`
)

// stretch is a part of memory, from its first byte to behind its last one.
type stretch struct {
	from, to uintptr
	what     string
}

func textStretch(s string) stretch {
	from := uintptr(unsafe.Pointer(unsafe.StringData(s)))
	return stretch{from, from + uintptr(len(s)), s}
}

// stretches tells the memory of all lists, up to what they could grow to, and of all texts in a value.
func stretches(v reflect.Value) []stretch {
	var l []stretch
	switch v.Kind() {
	case reflect.String:
		if v.Len() > 0 {
			l = append(l, textStretch(v.String()))
		}
	case reflect.Slice:
		if v.Cap() > 0 {
			l = append(l, stretch{v.Pointer(), v.Pointer() + uintptr(v.Cap())*v.Type().Elem().Size(), v.Type().String()})
		}
		for i := range v.Len() {
			l = append(l, stretches(v.Index(i))...)
		}
	case reflect.Struct:
		for i := range v.NumField() {
			l = append(l, stretches(v.Field(i))...)
		}
	}
	return l
}

// answers asks each call, of copies of its text.
func answers(t *testing.T) (inputs []string, l []any) {
	t.Helper()
	s, u, r := strings.Clone(sheet), strings.Clone(style), strings.Clone(row)
	rules, e := cssparse.Parse(s)
	decls, f := cssparse.Style(u)
	selectors, ok := cssparse.Select(r)
	if e != api.OK || f != api.OK || !ok || len(rules) != 3 || len(decls) != 3 || len(selectors) != 3 {
		t.Fatal(rules, e, decls, f, selectors, ok)
	}
	return []string{s, u, r}, []any{rules, decls, selectors}
}

func TestAnswersAreNewMemory(t *testing.T) { // P8.3
	inputs, first := answers(t)
	_, second := answers(t)
	var l []stretch
	for _, s := range inputs {
		l = append(l, textStretch(s))
	}
	for _, a := range append(first, second...) {
		l = append(l, stretches(reflect.ValueOf(a))...)
	}
	if len(l) < 100 {
		t.Fatalf("only %d lists and texts", len(l))
	}
	for i, a := range l {
		for _, b := range l[:i] {
			if a.from < b.to && b.from < a.to {
				t.Errorf("%q and %q lie in the same memory", a.what, b.what)
			}
		}
	}
}

// spoil changes all that a value holds, and what lies behind its lists' ends.
func spoil(v reflect.Value) {
	switch v.Kind() {
	case reflect.String:
		v.SetString("other")
	case reflect.Uint8:
		v.SetUint(99)
	case reflect.Bool:
		v.SetBool(!v.Bool())
	case reflect.Slice:
		v = v.Slice3(0, v.Cap(), v.Cap())
		for i := range v.Len() {
			spoil(v.Index(i))
		}
	case reflect.Struct:
		for i := range v.NumField() {
			spoil(v.Field(i))
		}
	}
}

func TestAnswersHangOnNoOthers(t *testing.T) { // P8.3
	inputs, first := answers(t)
	_, second := answers(t)
	_, want := answers(t)
	for _, a := range first {
		spoil(reflect.ValueOf(a))
	}
	_, third := answers(t)
	if !reflect.DeepEqual(second, want) {
		t.Errorf("another answer has changed: %+v", second)
	}
	if !reflect.DeepEqual(third, want) {
		t.Errorf("asked again: %+v", third)
	}
	if inputs[0] != sheet || inputs[1] != style || inputs[2] != row {
		t.Errorf("the texts have become %q", inputs)
	}
}

func TestListsOfOneAnswerAreApart(t *testing.T) { // P8.3: to let one grow changes no other
	_, want := answers(t)
	_, got := answers(t)
	for _, r := range got[0].([]cssparse.Rule) {
		_ = append(r.Selectors, nil)
		_ = append(r.Decls, cssparse.Decl{Name: "other"})
		for _, s := range r.Selectors {
			_ = append(s, cssparse.Compound{Type: "other"})
			for _, c := range s {
				_, _, _ = append(c.IDs, "other"), append(c.Classes, "other"), append(c.Tests, cssparse.Test{Name: "other"})
			}
		}
	}
	if !reflect.DeepEqual(got, want) {
		t.Errorf("the answers have become %+v", got)
	}
}

func TestSameFromSeveralSides(t *testing.T) { // P8.1, P8.2
	_, want := answers(t)
	same := make(chan bool)
	for range 16 {
		go func() {
			rules, _ := cssparse.Parse(sheet)
			decls, _ := cssparse.Style(style)
			selectors, _ := cssparse.Select(row)
			same <- reflect.DeepEqual([]any{rules, decls, selectors}, want)
		}()
	}
	for range 16 {
		if !<-same {
			t.Error("another goroutine's answer is another one")
		}
	}
}
