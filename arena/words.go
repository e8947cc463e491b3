package arena

import (
	"iter"

	"junctionbox/api"
)

// Where things stand in the words ahead of all blocks.
const (
	atSize    = 0
	atVersion = 1
	atEpoch   = 3
	atFour    = 5
	atSix     = 6
	atFence   = 7
	atLists   = 9
	atEdge    = 15
)

// The bits of a head: a one that all of them have, three bits of the class, and whether the block is taken.
const (
	headBit    = 1 << 4
	classShift = 1
	classBits  = 7 << classShift
	takenBit   = 1
)

// head is the word ahead of a block's own ones.
type head uint32

func headOf(class int, taken bool) head {
	h := headBit | head(class)<<classShift
	if taken {
		h |= takenBit
	}
	return h
}

// right is whether it is a head at all.
func (h head) right() bool {
	return h&^(classBits|takenBit) == headBit && h.class() <= api.MaxClass
}

func (h head) class() int {
	return int(h & classBits >> classShift)
}

func (h head) taken() bool {
	return h&takenBit != 0
}

// size is how many words of its own the block has.
func (h head) size() int {
	return 1 << h.class()
}

// mayHave is whether an arena may have so many words.
func mayHave(n int) bool {
	return n >= api.MinWords && n <= api.MaxWords
}

// over is an arena of these words in which no block is known yet.
func over(words []uint32) *Arena {
	return &Arena{words: words, begins: make([]bool, len(words))}
}

// pair is the two words from there on, which hold one number.
func (a *Arena) pair(at int) *[2]uint32 {
	return (*[2]uint32)(a.words[at:])
}

func lay(pair *[2]uint32, x uint64) {
	pair[0], pair[1] = uint32(x>>32), uint32(x)
}

func joined(pair *[2]uint32) uint64 {
	return uint64(pair[0])<<32 | uint64(pair[1])
}

func (a *Arena) edge() int {
	return int(a.words[atEdge])
}

// isBlock is whether a block, taken or free, has that place.
func (a *Arena) isBlock(place int) bool {
	return place >= 0 && place < len(a.begins) && a.begins[place]
}

// head is that of the block at that place.
func (a *Arena) head(place int) head {
	return head(a.words[place-1])
}

// blocks tells the place and the head of each block up to the edge. It goes on by what a head says: who finds that it is none leaves.
func (a *Arena) blocks() iter.Seq2[int, head] {
	return func(yield func(int, head) bool) {
		for place := api.HeadWords + 1; place <= a.edge(); {
			h := a.head(place)
			if !yield(place, h) {
				return
			}
			place += h.size() + 1
		}
	}
}

// pieces tells the blocks that are taken, or those that are not.
func (a *Arena) pieces(taken bool) iter.Seq[api.Piece] {
	return func(yield func(api.Piece) bool) {
		if a == nil {
			return
		}
		for place, h := range a.blocks() {
			if h.taken() == taken && !yield(api.Piece{Place: place, Class: h.class()}) {
				return
			}
		}
	}
}

// list tells a class's free list from its first block on. It goes on by a block's first word: who finds that there is no such block, or meets one again, leaves.
func (a *Arena) list(class int) iter.Seq[int] {
	return func(yield func(int) bool) {
		for place := a.words[atLists+class]; place != 0; place = a.words[place] {
			if !yield(int(place)) {
				return
			}
		}
	}
}
