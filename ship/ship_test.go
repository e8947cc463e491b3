package ship_test

import (
	"math"
	"slices"
	"testing"

	"junctionbox/api"
	"junctionbox/ship"
)

// The chapter's examples.

func TestExamples(t *testing.T) {
	none := api.At{}
	m := api.Msg{Kind: api.MsgOffer, Prev: at(1, 1), Entries: row("b1 c2")}
	offered(t, view(none, row("a1 b1 c2")...), 1, m, api.OK)
	accepted(t, view(none, row("a1")...), m, api.Change{Ok: true, Index: 2, Entries: row("b1 c2"), Have: 3}, api.OK)
	accepted(t, view(none), m, api.Change{}, api.OK)
	m = offer(at(2, 1), row("c2")...)
	accepted(t, view(none, row("a1 b1 x1")...), m, api.Change{Ok: true, Index: 3, Entries: row("c2"), Have: 3}, api.OK)
	accepted(t, view(none, row("a1 b1 c2")...), m, api.Change{Ok: true, Have: 3}, api.OK)
	accepted(t, view(none, row("a1 y2")...), m, api.Change{Have: 1}, api.OK)
	matched(t, 2, 3, have(3, true), 3)
	matched(t, 2, 3, have(0, false), 0)
}

// wrongs are views that may not be.
func wrongs() []api.View {
	return []api.View{
		view(at(api.MaxEpoch+1, 1)), view(at(api.MaxEpoch+1, 0), row("a1")...), view(at(1<<63, 1)), view(at(math.MaxUint64, 1)), view(at(math.MaxUint64, 1), row("a1 b1")...),
		view(at(0, 0), many(41, 1, 7)...), view(at(5, 2), many(41, 2, 7)...), view(at(api.MaxEpoch, 2), many(41, 2, 7)...), view(at(1, 1), make([]api.Entry, 300)...),
		view(at(api.MaxEpoch+1, 1), many(41, 1, 7)...), {Base: api.Base{At: at(math.MaxUint64-1, 0)}},
	}
}

// odds are views that may be, whatever else is to be said of them.
func odds() []api.View {
	odd := view(at(0, math.MaxUint64), api.Entry{}, api.Entry{Epoch: math.MaxUint64, Client: -1, Seq: math.MaxUint32}, named("b9"), named("a1"))
	odd.Vow = math.MaxUint64
	odd.Base.Rib.Routes = []api.Route{{Source: -7}, {Hop: 1 << 20}}
	odd.Base.Last = [3]api.Last{{Seq: 1, Index: 2}, {Seq: 3}, {Index: math.MaxUint64}}
	return []api.View{{}, odd, view(at(api.MaxEpoch, 0)), view(at(api.MaxEpoch, 5), many(40, 5, 7)...), view(at(0, 0), many(40, 1, 7)...), view(at(7, 0), make([]api.Entry, 40)...)}
}

// P14.1

func TestCheck(t *testing.T) {
	for i, v := range wrongs() {
		if err := ship.Check(v); err != api.ErrView {
			t.Errorf("Check of a view that may not be, the one at %d: %d", i, err)
		}
	}
	for i, v := range odds() {
		if err := ship.Check(v); err != api.OK {
			t.Errorf("Check of a view that may be, the one at %d: %d", i, err)
		}
	}
}

func TestPlace(t *testing.T) {
	for _, base := range []uint64{0, 1, 5, 1 << 40, api.MaxEpoch - 1, api.MaxEpoch} {
		for count := range 41 {
			v := view(at(base, 3))
			for i := range count {
				v.Entries = append(v.Entries, api.Entry{Epoch: uint64(100 - i*i)})
			}
			placed(t, v, base, at(base, 3), true)
			for i, e := range v.Entries {
				index := base + 1 + uint64(i)
				placed(t, v, index, at(index, e.Epoch), true)
			}
			for _, index := range []uint64{base - 1, base - 2, base - 41, base + uint64(count) + 1, base + uint64(count) + 2, base + 1<<32, base + 1<<63, math.MaxUint64} {
				placed(t, v, index, api.At{}, false)
			}
		}
	}
}

func TestPlaceOfNoView(t *testing.T) {
	for _, v := range wrongs() {
		for _, index := range []uint64{0, 1, 2, 5, 6, 40, 41, 45, v.Base.At.Index, v.Base.At.Index + 1, api.MaxEpoch, math.MaxUint64} {
			placed(t, v, index, api.At{}, false)
		}
	}
}

// P14.2

// full is a base that has something of all.
func full(index uint64) api.Base {
	b := api.Base{At: at(index, 3), Last: [3]api.Last{{}, {Seq: 7, Index: index}, {Seq: 1, Index: 1}}}
	for i := range 5 {
		b.Rib.Routes = append(b.Rib.Routes, api.Route{Prefix: prefixOf(16, 20, byte(i)), Source: 1 + i%4, Pref: i, Hop: 9 + i})
	}
	return b
}

func TestOffer(t *testing.T) {
	for _, base := range []uint64{0, 1, 2, 5, 1 << 40, api.MaxEpoch - 1, api.MaxEpoch} {
		for _, count := range []int{0, 1, 2, 7, 8, 9, 10, 16, 17, 39, 40} {
			v := api.View{Vow: 12, Base: full(base), Entries: many(count, 4, 7)}
			for i := range v.Entries {
				v.Entries[i].Epoch += uint64(i)
			}
			r := read(v)
			for match := base - min(base, 3); match <= r.last+3; match++ {
				want, wrong := r.offers(v.Base, match)
				offered(t, v, match, want, wrong)
			}
			for _, match := range []uint64{0, 1, base + 1<<32, api.MaxEpoch, 1 << 63, math.MaxUint64} {
				want, wrong := r.offers(v.Base, match)
				offered(t, v, match, want, wrong)
			}
		}
	}
}

func TestOfferTellsAllOfIt(t *testing.T) {
	v := api.View{Vow: 9, Base: full(20), Entries: many(11, 4, 7)}
	offered(t, v, 19, api.Msg{Kind: api.MsgState, Base: full(20)}, api.OK)
	offered(t, v, 0, api.Msg{Kind: api.MsgState, Base: full(20)}, api.OK)
	offered(t, v, 20, api.Msg{Kind: api.MsgOffer, Prev: at(20, 3), Entries: many(11, 4, 7)[:8]}, api.OK)
	offered(t, v, 23, api.Msg{Kind: api.MsgOffer, Prev: at(23, 4), Entries: many(11, 4, 7)[3:]}, api.OK)
	offered(t, v, 24, api.Msg{Kind: api.MsgOffer, Prev: at(24, 4), Entries: many(11, 4, 7)[4:]}, api.OK)
	offered(t, v, 31, api.Msg{Kind: api.MsgOffer, Prev: at(31, 4)}, api.OK)
	offered(t, v, 32, api.Msg{Kind: api.MsgOffer, Prev: at(31, 4)}, api.OK)
	offered(t, api.View{}, 0, api.Msg{Kind: api.MsgOffer}, api.OK)
	offered(t, api.View{}, 5, api.Msg{Kind: api.MsgOffer}, api.OK)
}

func TestOfferOfWhatIsOdd(t *testing.T) {
	for _, v := range odds() {
		for match := range uint64(12) {
			want, wrong := read(v).offers(v.Base, match)
			offered(t, v, match, want, wrong)
		}
	}
	for _, v := range wrongs() {
		for _, match := range []uint64{0, 1, 5, 41, v.Base.At.Index, api.MaxEpoch, math.MaxUint64} {
			offered(t, v, match, api.Msg{}, api.ErrView)
		}
	}
}

// P14.3

// Each mix of small views and offers is held against the chapter's words, read once more.
func TestAcceptOfEachMix(t *testing.T) {
	met := map[string]int{}
	for base := range places([]uint64{0, 1, 2, 4}, []uint64{0, 1, 2}) {
		for _, own := range rows(2, "a1", "b1", "a2") {
			v := view(base, row(own)...)
			r := read(v)
			for prev := range places([]uint64{0, 1, 2, 3, 4, 5, 6, 7}, []uint64{0, 1, 2}) {
				for _, names := range rows(2, "a1", "b1", "a2") {
					m := offer(prev, row(names)...)
					want, wrong := r.makes(m)
					accepted(t, v, m, want, wrong)
					met[kind(want)]++
				}
			}
		}
	}
	if met["unfit"] < 1000 || met["nothing"] < 1000 || met["put"] < 1000 {
		t.Errorf("too few of a kind: %v", met)
	}
}

// kind is what an offer comes to.
func kind(c api.Change) string {
	switch {
	case !c.Ok:
		return "unfit"
	case len(c.Entries) == 0:
		return "nothing"
	}
	return "put"
}

// thrown is entries that look thrown; those of one place are often the same.
func thrown(d *dice, index uint64, count int) []api.Entry {
	var l []api.Entry
	for i := range uint64(count) {
		e := many(3, 3+(index+i)/8, byte(index+i))[(index+i)%3]
		if d.roll(30) == 0 {
			e.Epoch++
		}
		l = append(l, e)
	}
	return l
}

func TestAcceptOfLongOnes(t *testing.T) {
	d := dice(14)
	met := map[string]int{}
	for range 20000 {
		base := uint64(d.roll(20))
		v := view(at(base, 3+(base-min(base, 1))/8), thrown(&d, base+1, d.roll(41))...)
		r := read(v)
		prev := uint64(d.roll(int(r.last) + 3))
		epoch := 3 + (prev-min(prev, 1))/8
		if own, ok := r.epochs[prev]; ok && d.roll(8) > 0 {
			epoch = own
		}
		m := offer(at(prev, epoch), thrown(&d, prev+1, d.roll(10))...)
		want, wrong := r.makes(m)
		accepted(t, v, m, want, wrong)
		met[kind(want)]++
		if want.Index > prev+1 {
			met["put from their midst on"]++
		}
		if prev < base {
			met["ahead of the base"]++
		}
	}
	for _, name := range []string{"unfit", "nothing", "put", "put from their midst on", "ahead of the base"} {
		if met[name] < 1000 {
			t.Errorf("too few of a kind: %v", met)
		}
	}
}

// others are entries that differ from one in one thing alone.
func others(e api.Entry) []api.Entry {
	change := []func(e *api.Entry){
		func(e *api.Entry) { e.Epoch++ },
		func(e *api.Entry) { e.Epoch += 1 << 32 },
		func(e *api.Entry) { e.Client++ },
		func(e *api.Entry) { e.Seq++ },
		func(e *api.Entry) { e.Batch.Updates = nil },
		func(e *api.Entry) { e.Batch.Updates = append(e.Batch.Updates, e.Batch.Updates[0]) },
		func(e *api.Entry) { slices.Reverse(e.Batch.Updates) },
		func(e *api.Entry) { e.Batch.Updates[1].Prefix.Bits++ },
		func(e *api.Entry) { e.Batch.Updates[1].Prefix.Addr.Bytes[15]++ },
		func(e *api.Entry) { e.Batch.Updates[0].Prefix.Addr.Version = 6 },
		func(e *api.Entry) { e.Batch.Updates[1].Source++ },
		func(e *api.Entry) { e.Batch.Updates[1].Gone = true },
		func(e *api.Entry) { e.Batch.Updates[1].Pref++ },
		func(e *api.Entry) { e.Batch.Updates[1].Hop++ },
	}
	var l []api.Entry
	for _, c := range change {
		x := e
		x.Batch.Updates = slices.Clone(e.Batch.Updates)
		c(&x)
		l = append(l, x)
	}
	return l
}

// TestAnotherOne: an entry is another one, if anything of it is.
func TestAnotherOne(t *testing.T) {
	l := many(4, 2, 7)
	for _, x := range others(l[1]) {
		own := slices.Clone(l)
		own[1] = x
		accepted(t, view(at(6, 2), own...), offer(at(6, 2), l[:3]...), api.Change{Ok: true, Index: 8, Entries: l[1:3], Have: 9}, api.OK)
		accepted(t, view(at(6, 2), l...), offer(at(6, 2), own[:3]...), api.Change{Ok: true, Index: 8, Entries: own[1:3], Have: 9}, api.OK)
		accepted(t, view(at(6, 2), own...), offer(at(6, 2), own[:3]...), api.Change{Ok: true, Have: 9}, api.OK)
	}
	// A list that is empty is one that is nil.
	x, y := l[1], l[1]
	x.Batch.Updates, y.Batch.Updates = nil, []api.Update{}
	accepted(t, view(at(6, 2), x), offer(at(6, 2), y), api.Change{Ok: true, Have: 7}, api.OK)
	// One that is zero is one nevertheless.
	accepted(t, view(at(6, 2)), offer(at(6, 2), api.Entry{}), api.Change{Ok: true, Index: 7, Entries: []api.Entry{{}}, Have: 7}, api.OK)
	accepted(t, view(at(6, 2), api.Entry{}), offer(at(6, 2), api.Entry{}), api.Change{Ok: true, Have: 7}, api.OK)
}

func TestAcceptAtTheEdges(t *testing.T) {
	top := uint64(api.MaxEpoch)
	for _, q := range []struct {
		name string
		v    api.View
		m    api.Msg
		want api.Change
	}{
		{"the place 0 of another epoch", view(at(0, 0), row("a1")...), offer(at(0, 1), row("a1")...), api.Change{}},
		{"the place 0 of another epoch", view(at(0, 2), row("a1")...), offer(at(0, 0)), api.Change{}},
		{"the base of another epoch", view(at(5, 2), row("a2")...), offer(at(5, 1), row("a1")...), api.Change{Have: 4}},
		{"the base 1 of another epoch", view(at(1, 2)), offer(at(1, 1)), api.Change{Have: 0}},
		{"the last one of another epoch", view(at(5, 2), row("a2 b3")...), offer(at(7, 2), row("a3")...), api.Change{Have: 6}},
		{"right behind the last one", view(at(5, 2), row("a2 b3")...), offer(at(8, 3), row("a3")...), api.Change{Have: 7}},
		{"far behind the last one", view(at(5, 2)), offer(at(top, 3), row("a3")...), api.Change{Have: 5}},
		{"the last one of this epoch", view(at(5, 2), row("a2 b3")...), offer(at(7, 3), row("c3")...), api.Change{Ok: true, Index: 8, Entries: row("c3"), Have: 8}},
		{"the base of this epoch", view(at(5, 2), row("a2 b3")...), offer(at(5, 2), row("c3")...), api.Change{Ok: true, Index: 6, Entries: row("c3"), Have: 6}},
		{"ahead of the base, of whichever epoch", view(at(5, 2)), offer(at(4, 77), row("a3 b3")...), api.Change{Ok: true, Index: 6, Entries: row("b3"), Have: 6}},
		{"ahead of the base, up to it", view(at(5, 2), row("a3")...), offer(at(3, 1), row("x9 y9")...), api.Change{Ok: true, Have: 5}},
		{"ahead of the base, not up to it", view(at(5, 2), row("a3")...), offer(at(0, 0), row("x1 y1")...), api.Change{Ok: true, Have: 2}},
		{"ahead of the base, behind it the same", view(at(5, 2), row("a3 b3")...), offer(at(3, 1), row("x1 y2 a3 b3")...), api.Change{Ok: true, Have: 7}},
		{"ahead of the base, behind it another one", view(at(5, 2), row("a3 b3 c3")...), offer(at(3, 1), row("x1 y2 a3 c4")...), api.Change{Ok: true, Index: 7, Entries: row("c4"), Have: 7}},
		{"no entries", view(at(5, 2), row("a3 b3")...), offer(at(6, 3)), api.Change{Ok: true, Have: 6}},
		{"no entries ahead of the base", view(at(5, 2), row("a3 b3")...), offer(at(1, 1)), api.Change{Ok: true, Have: 1}},
		{"eight, and the view is full", view(at(0, 0), many(40, 1, 7)...), offer(at(40, 1), many(8, 2, 9)...), api.Change{Ok: true, Index: 41, Entries: many(8, 2, 9), Have: 48}},
		{"what stands behind another one goes, too", view(at(0, 0), row("a1 b1 c1 d1")...), offer(at(1, 1), row("x2 c1 d1")...), api.Change{Ok: true, Index: 2, Entries: row("x2 c1 d1"), Have: 4}},
		{"the greatest index", view(at(top, 2)), offer(at(top, 2), row("a3")...), api.Change{Ok: true, Index: top + 1, Entries: row("a3"), Have: top + 1}},
		{"the greatest index of another epoch", view(at(top, 2)), offer(at(top, 3)), api.Change{Have: top - 1}},
		{"ahead of the greatest index", view(at(top, 2), row("a3 b3")...), offer(at(top-1, 2), row("x3 a3 c3")...), api.Change{Ok: true, Index: top + 2, Entries: row("c3"), Have: top + 2}},
	} {
		t.Run(q.name, func(t *testing.T) { accepted(t, q.v, q.m, q.want, api.OK) })
	}
}

func TestAcceptOfWhatIsWrong(t *testing.T) {
	for _, v := range append(odds(), view(at(5, 2), row("a2 b2")...)) {
		for kind := -1; kind < 9; kind++ {
			m := offer(at(5, 2), row("a2 b2")...)
			if m.Kind = kind; kind != api.MsgOffer {
				accepted(t, v, m, api.Change{}, api.ErrArg)
			}
		}
		for _, index := range []uint64{api.MaxEpoch + 1, 1 << 63, math.MaxUint64} {
			accepted(t, v, offer(at(index, 2)), api.Change{}, api.ErrArg)
			accepted(t, v, offer(at(index, 2), row("a2")...), api.Change{}, api.ErrArg)
		}
		for _, prev := range []api.At{v.Base.At, {}, at(api.MaxEpoch, 2), at(v.Base.At.Index, 99)} {
			accepted(t, v, offer(prev, many(9, 2, 7)...), api.Change{}, api.ErrArg)
			accepted(t, v, offer(prev, make([]api.Entry, 100)...), api.Change{}, api.ErrArg)
			m := offer(prev, many(8, 2, 7)...)
			want, wrong := read(v).makes(m)
			accepted(t, v, m, want, wrong)
		}
	}
	for _, v := range wrongs() {
		for _, m := range []api.Msg{{}, offer(at(5, 2)), offer(v.Base.At), offer(at(0, 0), many(9, 1, 7)...), state(at(5, 2)), state(at(math.MaxUint64, 2)), have(5, true)} {
			accepted(t, v, m, api.Change{}, api.ErrView)
			took(t, v, m, false, api.ErrView)
		}
	}
}

// Of an offer nothing counts but its Kind, Prev and Entries; of a state nothing but its Kind and its base's place.
func TestWhatElseAMessageHas(t *testing.T) {
	v := view(at(5, 2), row("a2 b2")...)
	m := offer(at(6, 2), row("c3")...)
	s := state(at(7, 3))
	for _, x := range []*api.Msg{&m, &s} {
		x.From, x.To, x.Epoch, x.Done = -3, 99, 0, math.MaxUint64
		x.Ok, x.Index, x.Stamp, x.Seq, x.Err = true, 1, 2, 3, 4
		x.Batch = named("z9").Batch
	}
	m.Base, s.Base.Rib, s.Base.Last = full(6), full(6).Rib, [3]api.Last{{Seq: 9}, {Index: 9}, {}}
	s.Prev, s.Entries = at(math.MaxUint64, 1), many(9, 1, 7)
	accepted(t, v, m, api.Change{Ok: true, Index: 7, Entries: row("c3"), Have: 7}, api.OK)
	took(t, v, s, true, api.OK)
	h := have(7, true)
	h.From, h.To, h.Epoch, h.Prev, h.Base = 9, 9, 0, at(1, 1), full(3)
	matched(t, 6, 8, h, 7)
}

func TestTook(t *testing.T) {
	met := map[bool]int{}
	indexes := []uint64{0, 1, 2, 4, 5, 6, 7, 8, 1 << 40, api.MaxEpoch - 1, api.MaxEpoch}
	for base := range places(indexes, []uint64{0, 1, 2}) {
		for _, own := range rows(2, "a1", "b2") {
			v := view(base, row(own)...)
			for other := range places(indexes, []uint64{0, 1, 2, math.MaxUint64}) {
				want, wrong := read(v).takes(state(other))
				took(t, v, state(other), want, wrong)
				met[want]++
			}
		}
	}
	if met[true] < 1000 || met[false] < 1000 {
		t.Errorf("too few of a kind: %v", met)
	}
}

func TestTookAtTheEdges(t *testing.T) {
	v := view(at(5, 2), row("a2 b3")...)
	for _, q := range []struct {
		base api.At
		want bool
	}{
		{at(0, 0), false}, {at(4, 2), false}, {at(4, 9), false},
		{at(5, 2), false}, {at(5, 1), true}, {at(5, 3), true},
		{at(6, 2), false}, {at(6, 3), true}, {at(7, 3), false}, {at(7, 2), true},
		{at(8, 3), true}, {at(8, 0), true}, {at(api.MaxEpoch, 3), true},
	} {
		took(t, v, state(q.base), q.want, api.OK)
	}
	took(t, api.View{}, state(at(0, 0)), false, api.OK)
	took(t, api.View{}, state(at(0, 1)), true, api.OK)
	took(t, api.View{}, state(at(1, 0)), true, api.OK)
}

func TestTookOfWhatIsWrong(t *testing.T) {
	for _, v := range odds() {
		for kind := -1; kind < 9; kind++ {
			m := state(at(api.MaxEpoch, 77))
			if m.Kind = kind; kind != api.MsgState {
				took(t, v, m, false, api.ErrArg)
			}
		}
		for _, index := range []uint64{api.MaxEpoch + 1, 1 << 63, math.MaxUint64} {
			took(t, v, state(at(index, 77)), false, api.ErrArg)
		}
		took(t, v, state(at(api.MaxEpoch, 77)), true, api.OK)
	}
}

// P14.4

func TestMatch(t *testing.T) {
	numbers := []uint64{0, 1, 2, 3, 7, 8, 9, api.MaxEpoch - 1, api.MaxEpoch, api.MaxEpoch + 1, 1 << 63, math.MaxUint64}
	least := func(x, y uint64) uint64 {
		if x < y {
			return x
		}
		return y
	}
	for _, match := range numbers {
		for _, last := range numbers {
			for _, index := range numbers {
				more := index
				if match > index {
					more = match
				}
				matched(t, match, last, have(index, true), least(more, last))
				matched(t, match, last, have(index, false), least(index, last))
				for kind := -1; kind < 9; kind++ {
					for _, ok := range []bool{false, true} {
						m := have(index, ok)
						if m.Kind = kind; kind != api.MsgHave {
							matched(t, match, last, m, least(match, last))
						}
					}
				}
			}
		}
	}
}
