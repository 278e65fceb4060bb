package props

import (
	"sync"
	"testing"

	"selvedge/api"
)

func TestLookupIsMadeOnce(t *testing.T) {
	var wait sync.WaitGroup
	for range 32 {
		wait.Go(func() {
			if Class(0x5D0) != api.R || Class('a') != api.L {
				t.Error("a class asked while others ask")
			}
		})
	}
	wait.Wait()
	if n := classesMade.Load(); n != 1 {
		t.Errorf("the lookup was made %d times", n)
	}
}

func TestRangesAreApart(t *testing.T) {
	seen := map[rune]api.Class{}
	for _, c := range classRanges() {
		for _, s := range c.spans {
			if s.first > s.last {
				t.Errorf("%X to %X: no range", s.first, s.last)
			}
			for r := s.first; r <= s.last; r++ {
				if old, ok := seen[r]; ok {
					t.Errorf("%X has classes %d and %d", r, old, c.class)
				}
				seen[r] = c.class
			}
		}
	}
}
