package tree_test

import (
	"strings"
	"sync"
	"testing"

	"selvedge/tree"
)

func TestKindOfEachElement(t *testing.T) { // P5.1
	counts := [9]int{0, 12, 1, 1, 6, 17, 1, 2, 1}
	var told [9]int
	for name, kind := range chapterKinds {
		checkKind(t, name)
		told[kind]++
	}
	if told != counts {
		t.Errorf("the kinds have %v elements", told)
	}
}

// checkKind holds Kind and the map against the chapter's table, and so against each other.
func checkKind(t *testing.T, name string) {
	t.Helper()
	want := chapterKinds[name]
	if got := tree.Kind(name); got != want {
		t.Errorf("Kind(%q) is %d, not %d", name, got, want)
	}
	if got := tree.KindByMap(name); got != want {
		t.Errorf("KindByMap(%q) is %d, not %d", name, got, want)
	}
}

func TestNamesOfNone(t *testing.T) { // P5.1
	for _, name := range strings.Fields("html head body title table tr td th tbody thead script style template img input button form label select option textarea pre address main2 dl dt dd hgroup figcaption details summary dialog fieldset del ins kbd samp var tt big font center strike ruby rt rp iframe object embed svg math video audio canvas area base col link meta param source track h0 h7 h10 h h11 dfn time data menu search slot noscript document # #text * é ß") {
		checkKind(t, name)
	}
	for _, name := range []string{"", " ", "\x00", "\xFF", "\u212A", strings.Repeat("p", 1<<20), "p p"} {
		checkKind(t, name)
	}
	for name := range chapterKinds {
		for _, other := range []string{strings.ToUpper(name), strings.ToUpper(name[:1]) + name[1:], " " + name, name + " ", name + "\n", name + "\x00", "\x00" + name, name + name, name + "/", "<" + name + ">", "/" + name, name[1:], name[:len(name)-1], name + "1"} {
			checkKind(t, other)
		}
	}
}

func TestAllShortNames(t *testing.T) { // P5.1
	for a := range 256 {
		checkKind(t, string([]byte{byte(a)}))
		for b := range 256 {
			checkKind(t, string([]byte{byte(a), byte(b)}))
		}
	}
	const signs = "abcdefghijklmnopqrstuvwxyz0123456789-"
	for _, a := range signs {
		for _, b := range signs {
			for _, c := range signs {
				checkKind(t, string([]rune{a, b, c}))
			}
		}
	}
}

func TestKindsFromSeveralSides(t *testing.T) { // P5.1
	var all sync.WaitGroup
	for range 16 {
		all.Go(func() {
			for name := range chapterKinds {
				checkKind(t, name)
				checkKind(t, name+"x")
			}
		})
	}
	all.Wait()
}
