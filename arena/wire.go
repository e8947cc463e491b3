package arena

import (
	"slices"

	"junctionbox/api"
	"junctionbox/octet"
)

// wordBytes is how many bytes a word takes.
const wordBytes = 4

// Encode: P6.5.
func (a *Arena) Encode() []byte {
	if a == nil {
		return nil
	}
	out := make([]byte, 0, wordBytes*len(a.words))
	for _, x := range a.words {
		out = append(out, octet.Put32(nil, x)...)
	}
	return out
}

// Decode: P6.5.
func Decode(b []byte) (*Arena, api.Errno) {
	if len(b) < wordBytes*api.HeadWords {
		return nil, api.ErrShort
	}
	n := octet.Read(b[:wordBytes]).U32()
	size := wordBytes * uint64(n) // which 32 bits might not hold
	switch {
	case uint64(len(b)) < size:
		return nil, api.ErrShort
	case uint64(len(b)) > size || !mayHave(int(n)):
		return nil, api.ErrArena
	}
	a := over(wordsOf(b))
	if !a.inBlocks() || !a.inLists() || !a.mayLead(int(a.words[atFour])) || !a.mayLead(int(a.words[atSix])) {
		return nil, api.ErrArena
	}
	return a, api.OK
}

func wordsOf(b []byte) []uint32 {
	r := octet.Read(b)
	words := make([]uint32, len(b)/wordBytes)
	for i := range words {
		words[i] = r.U32()
	}
	return words
}

// inBlocks is whether block stands behind block up to the edge, and nothing behind it. It notes where they begin: all that is asked later goes by that.
func (a *Arena) inBlocks() bool {
	if a.edge() < api.HeadWords || a.edge() > len(a.words) {
		return false
	}
	for place, h := range a.blocks() {
		if !h.right() || place+h.size() > a.edge() {
			return false
		}
		a.begins[place] = true
	}
	return blank(a.words[a.edge():])
}

// inLists is whether each block that is free is in one list, that of its class, and once.
func (a *Arena) inLists() bool {
	met := make([]bool, len(a.words))
	for class := range api.MaxClass + 1 {
		for place := range a.list(class) {
			if !a.isBlock(place) || a.head(place) != headOf(class, false) || met[place] {
				return false
			}
			met[place] = true
		}
	}
	for p := range a.pieces(false) {
		if behind := p.Place + a.head(p.Place).size(); !met[p.Place] || !blank(a.words[p.Place+1:behind]) {
			return false
		}
	}
	return true
}

func blank(words []uint32) bool {
	return !slices.ContainsFunc(words, func(x uint32) bool {
		return x != 0
	})
}
