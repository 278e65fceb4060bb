package props

import (
	"math"
	"sync"
	"testing"

	"selvedge/api"
)

func TestLookupIsMadeOnce(t *testing.T) {
	var wait sync.WaitGroup
	for range 32 {
		wait.Go(func() {
			for r, want := range map[rune]api.Class{0x5D0: api.R, 'a': api.L, -1: api.L, 0x110000: api.L} {
				if c, made := ClassByBlocks(r); c != want || made != 1 {
					t.Errorf("ClassByBlocks(%X), asked while others ask, is %d, %d", r, c, made)
				}
			}
		})
	}
	wait.Wait()
	if n := classesMade.Load(); n != 1 {
		t.Errorf("the lookup was made %d times", n)
	}
}

func TestLookupTellsWhatClassTells(t *testing.T) {
	runes := []rune{math.MinInt32, math.MinInt32 + 1, -0x110000, -0x10FFFF, 0x200020, 0x1000028, math.MaxInt32 - 1, math.MaxInt32}
	for r := rune(-0x400); r <= 0x110400; r++ {
		runes = append(runes, r)
	}
	for _, r := range runes {
		c, made := ClassByBlocks(r)
		if want := Class(r); c != want {
			t.Errorf("the lookup tells %d of %X, Class tells %d", c, r, want)
		}
		if made != 1 {
			t.Fatalf("at %X the lookup was made %d times", r, made)
		}
	}
}

func TestLookupSharesTheBlockOfWhichNothingIsTold(t *testing.T) {
	table := newLookup()
	if len(table.blockOf) != 0x1100 {
		t.Errorf("%d blocks are told of", len(table.blockOf))
	}
	used := map[uint8]int{}
	for _, b := range table.blockOf {
		used[b]++
	}
	if len(used) != len(table.blocks) {
		t.Errorf("%d blocks stand there, %d are used", len(table.blocks), len(used))
	}
	for b, n := range used {
		if b != 0 && n != 1 {
			t.Errorf("block %d is used %d times", b, n)
		}
	}
	if table.blockOf[0x40] != 0 || table.blockOf[0x10FF] != 0 {
		t.Error("blocks of which the ranges tell nothing have one of their own")
	}
}

func TestSpansRiseAndAreApart(t *testing.T) {
	before := rune(-1)
	for _, s := range classSpans() {
		if s.first <= before || s.last < s.first || s.last > lastRune {
			t.Errorf("%X to %X, behind %X", s.first, s.last, before)
		}
		if s.class == api.L {
			t.Errorf("%X to %X: L is what all others have", s.first, s.last)
		}
		before = s.last
	}
}
