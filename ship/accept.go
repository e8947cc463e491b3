package ship

import (
	"iter"

	"junctionbox/api"
	"junctionbox/route"
)

// Accept: P14.3.
func Accept(v api.View, m api.Msg) (api.Change, api.Errno) {
	if err := Check(v); err != api.OK {
		return api.Change{}, err
	}
	if m.Kind != api.MsgOffer || len(m.Entries) > api.MaxOffer || m.Prev.Index > api.MaxEpoch {
		return api.Change{}, api.ErrArg
	}
	return made(v, m), api.OK
}

// made is what an offer makes of a view.
func made(v api.View, m api.Msg) api.Change {
	prev, have := m.Prev.Index, end(v)
	if prev > have {
		goto unfit
	}
	// Ahead of the base there is no place that could be another one: what the base says is not taken back.
	if own, found := Place(v, prev); found && own != m.Prev {
		have = prev - min(prev, 1)
		goto unfit
	}
	return fitting(v, m)
unfit:
	return api.Change{Have: have}
}

// fitting is what an offer that fits makes of a view.
func fitting(v api.View, m api.Msg) api.Change {
	prev := m.Prev.Index
	c := api.Change{Ok: true, Have: prev + uint64(len(m.Entries))}
	for index, there := range along(v, m) {
		if !there {
			c.Index, c.Entries = index, copies(m.Entries[index-prev-1:])
			break
		}
	}
	return c
}

// along goes along both lists, the offered entries and those of the view: it tells each index above the base at which one is offered, and whether the view has just that one there.
func along(v api.View, m api.Msg) iter.Seq2[uint64, bool] {
	return func(yield func(uint64, bool) bool) {
		last := end(v)
		for i, e := range m.Entries {
			index := m.Prev.Index + uint64(i) + 1
			if index <= v.Base.At.Index {
				continue
			}
			if !yield(index, index <= last && same(behind(v, index-1)[0], e)) {
				return
			}
		}
	}
}

func same(x, y api.Entry) bool {
	return x.Epoch == y.Epoch && x.Client == y.Client && x.Seq == y.Seq && route.SameBatch(x.Batch, y.Batch)
}
