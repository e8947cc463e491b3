package rib

import (
	"iter"
	"slices"

	"junctionbox/api"
	"junctionbox/route"
)

// holding is what a journal has. Its lists are never changed: what comes of a change has others, and may be thrown away.
type holding struct {
	vow     uint64
	base    api.Base
	entries []api.Entry
}

// change makes what comes of it of what a journal has.
type change func(h *holding)

func toVow(epoch uint64) change {
	return func(h *holding) {
		h.vow = epoch
	}
}

// toPut keeps the list.
func toPut(index uint64, l []api.Entry) change {
	return func(h *holding) {
		h.entries = slices.Concat(h.entries[:h.ahead(index)], l)
	}
}

// toBase keeps the base; the list may be a piece of one that is thrown away.
func toBase(b api.Base, l []api.Entry) change {
	return func(h *holding) {
		h.base, h.entries = b, slices.Clone(l)
	}
}

// end is the index of the last place.
func (h holding) end() uint64 {
	return h.base.At.Index + uint64(len(h.entries))
}

// covers is whether an index has a place.
func (h holding) covers(index uint64) bool {
	return index >= h.base.At.Index && index <= h.end()
}

// ahead is how many entries stand ahead of an index, which is not the base's.
func (h holding) ahead(index uint64) int {
	return int(index - h.base.At.Index - 1)
}

// from is the entries from an index on.
func (h holding) from(index uint64) []api.Entry {
	return h.entries[h.ahead(index):]
}

// place is the place of an index; false, if it has none.
func (h holding) place(index uint64) (api.At, bool) {
	switch {
	case !h.covers(index):
		return api.At{}, false
	case index == h.base.At.Index:
		return h.base.At, true
	}
	return api.At{Index: index, Epoch: h.entries[h.ahead(index)].Epoch}, true
}

// state is the state of an index; false, if it has no place.
func (h holding) state(index uint64) (api.Base, bool) {
	if !h.covers(index) {
		return api.Base{}, false
	}
	s := h.base
	for next := range h.along(h.base, h.entries[:index-h.base.At.Index]) {
		s = next
	}
	return s, true
}

// along goes over entries from a state on, and tells of each the state behind it, with the RIB there. The first one that may not stand where it does is told by its error, and is the end.
func (h holding) along(s api.Base, l []api.Entry) iter.Seq2[api.Base, api.Errno] {
	return func(yield func(api.Base, api.Errno) bool) {
		at := s
		for _, e := range l {
			next, err := h.behind(at, e)
			if !yield(next, err) || err != api.OK {
				return
			}
			at = next
		}
	}
}

// behind is the state behind an entry that stands right behind a state, or why it may not.
func (h holding) behind(s api.Base, e api.Entry) (api.Base, api.Errno) {
	switch {
	case e.Client < 1 || e.Client > api.MaxClients || e.Seq <= s.Last[e.Client].Seq:
		return api.Base{}, api.ErrEntry
	case e.Epoch < 1 || e.Epoch < s.At.Epoch || e.Epoch > h.vow:
		return api.Base{}, api.ErrEntry
	}
	r, err := route.Apply(s.Rib, e.Batch)
	if err != api.OK {
		return api.Base{}, err
	}
	s.At, s.Rib = api.At{Index: s.At.Index + 1, Epoch: e.Epoch}, r
	s.Last[e.Client] = api.Last{Seq: e.Seq, Index: s.At.Index}
	return s, api.OK
}

// refuses is why entries may not be put from that index on.
func (h holding) refuses(index uint64, l []api.Entry) api.Errno {
	first, count := h.base.At.Index+1, uint64(len(l))
	switch {
	case index < first || index > h.end()+1 || index-1+count > api.MaxEpoch:
		return api.ErrArg
	case index-first+count > api.MaxEntries:
		return api.ErrFull
	}
	s, _ := h.state(index - 1)
	for _, err := range h.along(s, l) {
		if err != api.OK {
			return err
		}
	}
	return api.OK
}

// mayHave is whether a base may be, of the vow. No vow is above MaxEpoch: so no epoch is that is not above the vow.
func (h holding) mayHave(b api.Base) bool {
	at := b.At
	switch {
	case at.Index > api.MaxEpoch || at.Epoch > h.vow || (at.Index == 0) != (at.Epoch == 0):
		return false
	case route.Check(b.Rib) != api.OK || at.Index == 0 && len(b.Rib.Routes) > 0:
		return false
	}
	return b.Last[0] == api.Last{} && lastMayBe(b.Last[1:], at.Index)
}

// lastMayBe is whether clients may have these last entries up to an index.
func lastMayBe(l []api.Last, index uint64) bool {
	for i, x := range l {
		if (x.Seq == 0) != (x.Index == 0) || x.Index > index {
			return false
		}
		at := func(other api.Last) bool { return other.Index == x.Index }
		if x.Index > 0 && slices.ContainsFunc(l[:i], at) {
			return false
		}
	}
	return true
}

func same(x, y api.Entry) bool {
	return x.Epoch == y.Epoch && x.Client == y.Client && x.Seq == y.Seq && route.SameBatch(x.Batch, y.Batch)
}

// copies is the same entries in memory of their own.
func copies(l []api.Entry) []api.Entry {
	out := slices.Clone(l)
	for i := range out {
		out[i].Batch.Updates = slices.Clone(out[i].Batch.Updates)
	}
	return out
}

// copyOf is the same base in memory of its own.
func copyOf(b api.Base) api.Base {
	b.Rib.Routes = slices.Clone(b.Rib.Routes)
	return b
}
