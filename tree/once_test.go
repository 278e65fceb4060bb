package tree

import (
	"os"
	"sync"
	"testing"

	"selvedge/api"
	"selvedge/token"
)

// TestMain looks ahead of all tests: nobody has asked the map then, and the calls that the chapter lists don't ask it.
func TestMain(m *testing.M) {
	if kinds != nil {
		println("the map of kinds is made before anything is asked")
		os.Exit(1)
	}
	askListedCalls()
	if kinds != nil {
		println("the map of kinds is made by a call that does not ask it")
		os.Exit(1)
	}
	os.Exit(m.Run())
}

func askListedCalls() {
	Kind("p")
	Kind("table")
	Build([]token.Token{{Kind: token.Start, Name: "li"}, {Kind: token.Text, Data: "x"}, {Kind: token.End, Name: "li"}})
	t, _, _ := Parse([]byte("<ul><li>a<li><b>b</b><br></ul><h1><a>c</a></h1>"))
	Right(t)
}

func TestMapOfKindsIsMadeOnce(t *testing.T) {
	var all sync.WaitGroup
	for range 32 {
		all.Go(func() {
			if KindByMap("p") != paragraph || KindByMap("table") != 0 {
				t.Error("the map, asked while others ask, tells other kinds")
			}
		})
	}
	all.Wait()
	const mark = "a mark that a map made anew has not"
	kinds[mark] = 255
	if KindByMap(mark) != 255 {
		t.Error("the map was made anew")
	}
	delete(kinds, mark)
	if KindByMap(mark) != 0 || len(kinds) != elementCount {
		t.Errorf("%d elements", len(kinds))
	}
}

func TestMapHasWhatKindTells(t *testing.T) {
	KindByMap("p")
	for name, kind := range kinds {
		if kind == 0 || Kind(name) != kind {
			t.Errorf("%q: the map tells %d, Kind %d", name, kind, Kind(name))
		}
	}
}

func TestListedCallsDoNotFollowTheMap(t *testing.T) {
	KindByMap("p")
	kinds["p"] = void
	delete(kinds, "b")
	kinds["table"] = block
	defer makeKinds()
	if Kind("p") != paragraph || Kind("b") != inline || Kind("table") != 0 {
		t.Error("Kind follows the map")
	}
	u, e, _ := Parse([]byte("<p>x<b>y</b></p>"))
	if e != api.OK || Right(u) != api.OK {
		t.Errorf("Parse or Right follows the map: %v, %d", u, e)
	}
	if _, e, _ := Build([]token.Token{{Kind: token.Start, Name: "table"}}); e != api.ErrElement {
		t.Errorf("Build follows the map: %d", e)
	}
}
