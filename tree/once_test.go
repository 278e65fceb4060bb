package tree

import (
	"os"
	"testing"
)

// TestMain looks ahead of all tests: nobody has asked for a kind then.
func TestMain(m *testing.M) {
	if kinds != nil {
		println("the map of kinds is made before it is asked")
		os.Exit(1)
	}
	os.Exit(m.Run())
}

func TestMapOfKindsIsMadeOnce(t *testing.T) { // P5.1
	Kind("p")
	const mark = "a mark that a map made anew has not"
	kinds[mark] = 255
	if Kind(mark) != 255 {
		t.Error("the map was made anew")
	}
	delete(kinds, mark)
	if Kind(mark) != 0 || len(kinds) != 41 {
		t.Errorf("%d elements", len(kinds))
	}
}
