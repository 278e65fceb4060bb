package props

import (
	"sync"
	"sync/atomic"

	"selvedge/api"
)

const (
	lastRune   rune = 0x10FFFF
	blockSize       = 256
	blockCount      = (lastRune + 1) / blockSize
)

// lookup is a table of classes in two stages: which block a character stands in, and its class there.
type lookup struct {
	blockOf []uint8
	blocks  [][blockSize]api.Class
}

// The lookup is made when it is asked first; classesMade counts how often that was done, so that a test can tell that it was once.
var (
	classesOnce sync.Once
	classesMade atomic.Int32
	classes     lookup
)

// ClassByBlocks tells what Class tells, by the lookup in two stages, and how often that lookup was made.
func ClassByBlocks(r rune) (api.Class, int) {
	classesOnce.Do(makeClasses)
	made := int(classesMade.Load())
	if r < 0 || r > lastRune {
		return api.L, made
	}
	return classes.blocks[classes.blockOf[r/blockSize]][r%blockSize], made
}

func makeClasses() {
	classes = newLookup()
	classesMade.Add(1)
}

func newLookup() lookup {
	// The first block is shared by all the characters of which the ranges tell nothing.
	t := lookup{
		blockOf: make([]uint8, blockCount),
		blocks:  [][blockSize]api.Class{leftBlock()},
	}
	for _, s := range classSpans() {
		for r := s.first; r <= s.last; r++ {
			t.put(r, s.class)
		}
	}
	return t
}

func leftBlock() [blockSize]api.Class {
	var block [blockSize]api.Class
	for i := range block {
		block[i] = api.L
	}
	return block
}

func (t *lookup) put(r rune, class api.Class) {
	b := r / blockSize
	if t.blockOf[b] == 0 {
		t.blockOf[b] = uint8(len(t.blocks))
		t.blocks = append(t.blocks, leftBlock())
	}
	t.blocks[t.blockOf[b]][r%blockSize] = class
}
