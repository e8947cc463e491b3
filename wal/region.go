package wal

import (
	"iter"

	"junctionbox/api"
	"junctionbox/disk"
	"junctionbox/octet"
	"junctionbox/sum"
)

const (
	letters = "junction"
	labels  = 2 // sectors with a label each: one may be spoilt
)

// region is sectors of the disk, one behind the other.
type region struct {
	first, size int
}

// areasOf is where the areas are.
func areasOf(area int) [2]region {
	return [2]region{{labels, area}, {labels + area, area}}
}

// filled tells the sectors of a region, with b for each.
func (r region) filled(b api.Block) iter.Seq2[int, api.Block] {
	return func(yield func(int, api.Block) bool) {
		for place := range r.size {
			if !yield(r.first+place, b) {
				return
			}
		}
	}
}

// read reads all sectors of a region.
func (r region) read(d *disk.Disk) ([]api.Block, api.Errno) {
	all := make([]api.Block, r.size)
	for place := range all {
		b, err := d.Read(r.first + place)
		if err != api.OK {
			return nil, err
		}
		all[place] = b
	}
	return all, api.OK
}

// mayBe says whether a disk has room for a log of such areas.
func mayBe(area int, d *disk.Disk) bool {
	return area >= api.MinArea && area <= api.MaxArea && d.Len() >= labels+2*area
}

// label is what a label's sector holds.
func label(area int) api.Block {
	var b api.Block
	copy(b[:], octet.Put32([]byte(letters), uint32(area)))
	copy(b[:], sum.Seal32(b[:api.Sector-4]))
	return b
}

// sizeOf is the n of the first label that is right; false, if none is.
func sizeOf(heads []api.Block, d *disk.Disk) (int, bool) {
	for _, b := range heads {
		area := int(octet.Read(b[len(letters):]).U32())
		if mayBe(area, d) && b == label(area) {
			return area, true
		}
	}
	return 0, false
}
