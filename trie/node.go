package trie

import (
	"math/bits"

	"junctionbox/api"
	"junctionbox/arena"
	"junctionbox/bitmap"
	"junctionbox/prefix"
)

const (
	nibbleBits = 4  // the bits that a node goes on by
	setBits    = 32 // the bits of a set
	nodeWords  = 3  // the words of a node; its block has one more
	none       = 0  // the hop of a prefix, the place of a child, that is not there
)

// deepest is the depth of a version's deepest nodes.
func deepest(version int) int {
	return prefix.Width(version) / nibbleBits
}

// within is how many bits the prefix of that bit of Inner has, and their value. One more than the bit is these bits behind a 1.
func within(bit int) (int, int) {
	k := bits.Len(uint(bit+1)) - 1
	return k, bit + 1 - 1<<k
}

// count is how many bits are set.
func count(set uint32) int {
	return bitmap.Rank(set, setBits)
}

// classOf is the least class whose blocks have so many words, of one at least.
func classOf(words int) int {
	return bits.Len(uint(words - 1))
}

// wordsAt is the words of the block that is taken at that place, if it is of that class.
func wordsAt(a *arena.Arena, place, class int) ([]uint32, bool) {
	if c, ok := a.Class(place); !ok || c != class {
		return nil, false
	}
	words := make([]uint32, 1<<class)
	for i := range words {
		words[i], _ = a.Load(place, i)
	}
	return words, true
}

// nodeAt is the node at that place. What stands behind its words is not asked, since a lookup believes what it does not need.
func nodeAt(a *arena.Arena, place int) (api.Node, bool) {
	words, ok := wordsAt(a, place, classOf(nodeWords))
	if !ok {
		return api.Node{}, false
	}
	n, err := bitmap.Decode(words)
	return n, err == api.OK
}

// aloneAt is the node at that place, if nothing stands behind its words: those of a trie are so.
func aloneAt(a *arena.Arena, place int) (api.Node, bool) {
	n, ok := nodeAt(a, place)
	behind, err := a.Load(place, nodeWords)
	if !ok || err != api.OK || behind != 0 {
		return api.Node{}, false
	}
	return n, true
}

// rowAt is the words of all bits of a set, which stand alone in a block of the least class; of an empty set none.
func rowAt(a *arena.Arena, place, set uint32) ([]uint32, bool) {
	size := count(set)
	if size == 0 {
		return nil, true
	}
	words, ok := wordsAt(a, int(place), classOf(size))
	if !ok {
		return nil, false
	}
	for _, x := range words[size:] {
		if x != 0 {
			return nil, false
		}
	}
	return words[:size], true
}

// wordOf is the word of one bit of a set. It asks less than rowAt, since a lookup believes what it does not need.
func wordOf(a *arena.Arena, place, set uint32, bit int) (uint32, bool) {
	class, ok := a.Class(int(place))
	if !ok || 1<<class < count(set) {
		return 0, false
	}
	x, err := a.Load(int(place), bitmap.Rank(set, bit))
	return x, err == api.OK
}
