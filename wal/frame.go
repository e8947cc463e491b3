package wal

import (
	"iter"

	"junctionbox/api"
	"junctionbox/octet"
	"junctionbox/sum"
)

const most = 48 // bytes of a part: a sector without what stands ahead of them

// part is what a sector says of a frame. It is a value without lists, so that the one that is found is held against the one that ought to stand there as a whole.
type part struct {
	turn, number uint32
	behind, size uint16
	bytes        [most]byte
}

// frame is what is written at once.
type frame struct {
	turn, number uint32
	bytes        []byte
}

// Sectors: P4.1.
func Sectors(n int) int {
	if n < 0 || n > api.MaxTx {
		return 0
	}
	return max(1, (n+most-1)/most)
}

// parts tells a frame's parts, each with its place.
func (f frame) parts() iter.Seq2[int, part] {
	return func(yield func(int, part) bool) {
		count := Sectors(len(f.bytes))
		for place := range count {
			p := part{turn: f.turn, number: f.number, behind: uint16(count - 1 - place)}
			p.size = uint16(copy(p.bytes[:], f.bytes[place*most:]))
			if !yield(place, p) {
				return
			}
		}
	}
}

// rows tells the sectors that a frame takes from the sector first on, and what they will hold.
func (f frame) rows(first int) iter.Seq2[int, api.Block] {
	return func(yield func(int, api.Block) bool) {
		for place, p := range f.parts() {
			if !yield(first+place, p.block()) {
				return
			}
		}
	}
}

// head is what stands ahead of the sum.
func (p part) head() []byte {
	b := octet.Put32(octet.Put32(nil, p.turn), p.number)
	return octet.Put16(octet.Put16(b, p.behind), p.size)
}

// check is the sum of all but the sum.
func (p part) check() uint32 {
	return sum.On(sum.Sum32(p.head()), p.bytes[:])
}

// block is a part's sector.
func (p part) block() api.Block {
	var b api.Block
	copy(b[api.Sector-most:], p.bytes[:])
	copy(b[:], octet.Put32(p.head(), p.check()))
	return b
}

// partOf takes a sector for a part's; false, if it is none's.
func partOf(b api.Block) (part, bool) {
	r := octet.Read(b[:])
	p := part{turn: r.U32(), number: r.U32(), behind: r.U16(), size: r.U16()}
	said := r.U32()
	copy(p.bytes[:], r.Raw(most))
	return p, p.size <= most && said == p.check()
}

// partsAt is as many parts as the first of these sectors says; none, if one of them is missing.
func partsAt(sectors []api.Block) []part {
	var found []part
	for place, b := range sectors {
		p, ok := partOf(b)
		if !ok {
			return nil
		}
		found = append(found, p)
		if place == int(found[0].behind) {
			return found
		}
	}
	return nil
}

// frameAt is the frame that stands at the first of these sectors; false, if none does. What the parts would make is taken apart again: so nothing counts but what this package itself would have written.
func frameAt(sectors []api.Block) (frame, bool) {
	found := partsAt(sectors)
	if len(found) == 0 {
		return frame{}, false
	}
	f := frame{turn: found[0].turn, number: found[0].number}
	for _, p := range found {
		f.bytes = append(f.bytes, p.bytes[:p.size]...)
	}
	if f.turn == 0 || len(f.bytes) > api.MaxTx {
		return frame{}, false
	}
	for place, p := range f.parts() {
		if found[place] != p {
			return frame{}, false
		}
	}
	return f, true
}
