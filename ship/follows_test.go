package ship_test

import (
	"math"
	"slices"
	"testing"

	"junctionbox/api"
	"junctionbox/disk"
	"junctionbox/rib"
	"junctionbox/ship"
)

// P14.5

// end is the index of a view's last place.
func end(v api.View) uint64 {
	return v.Base.At.Index + uint64(len(v.Entries))
}

// put is a view behind a change.
func put(v api.View, c api.Change) api.View {
	if len(c.Entries) > 0 {
		v.Entries = slices.Concat(v.Entries[:c.Index-v.Base.At.Index-1], c.Entries)
	}
	return v
}

// turn is one offer from a match on, and what comes of it: what the other one has then, and the match.
func turn(t *testing.T, one, other api.View, match uint64) (api.View, uint64) {
	t.Helper()
	m, err := ship.Offer(one, match)
	if err != api.OK {
		t.Fatalf("Offer: %d", err)
	}
	told := have(m.Base.At.Index, true)
	if m.Kind == api.MsgState {
		is, err := ship.Took(other, m)
		if err != api.OK {
			t.Fatalf("Took: %d", err)
		}
		if is {
			other = api.View{Vow: other.Vow, Base: m.Base}
		}
	} else {
		c, err := ship.Accept(other, m)
		if err != api.OK {
			t.Fatalf("Accept: %d", err)
		}
		told = have(c.Have, c.Ok)
		other = put(other, c)
	}
	return other, ship.Match(match, end(one), told)
}

// agree is whether two views have the same: their last place, and what stands at each place of both.
func agree(one, other api.View) bool {
	x, y := read(one), read(other)
	if x.last != y.last || x.epochs[x.last] != y.epochs[y.last] {
		return false
	}
	for index, e := range x.entries {
		if own, ok := y.entries[index]; ok && key(own) != key(e) {
			return false
		}
	}
	return true
}

// pair is a sequence that two have up to a place, and what each of them has behind it.
type pair struct {
	common, one, two []api.Entry
}

// pairOf is one with so many entries of each.
func pairOf(common, one, two int) pair {
	p := pair{many(common, 1, 7), many(one, 4, 8), many(two, 3, 9)}
	for i := range p.common {
		p.common[i].Epoch += uint64(i / 3)
	}
	for i := range p.one { // no epoch of the one is one of the other
		p.one[i].Epoch += 20 + 2*uint64(i/2)
	}
	for i := range p.two {
		p.two[i].Epoch += 20 + 2*uint64(i/3)
	}
	return p
}

// views are what both have from a base on.
func (p pair) views(one, two int) (api.View, api.View) {
	return based(slices.Concat(p.common, p.one), one), based(slices.Concat(p.common, p.two), two)
}

// based is a view of a sequence from a base on.
func based(l []api.Entry, base int) api.View {
	v := view(api.At{}, l[base:]...)
	if base > 0 {
		v.Base = full(uint64(base))
		v.Base.At.Epoch = l[base-1].Epoch
	}
	return v
}

// ends fails a test, if the other one does not come to have just the same in so many turns, or loses it again; it is how many there were.
func ends(t *testing.T, one, other api.View, match uint64) int {
	t.Helper()
	start, most, turns := match, len(other.Entries)+12, 0
	for ; !agree(one, other); turns++ {
		if turns == most {
			t.Fatalf("from %d on, %v and %d entries, and %v and %d: it has %v and %d behind %d turns", start, one.Base.At, len(one.Entries), other.Base.At, most-12, other.Base.At, len(other.Entries), turns)
		}
		other, match = turn(t, one, other, match)
	}
	for range 12 {
		other, match = turn(t, one, other, match)
		if !agree(one, other) {
			t.Fatalf("from %d on, %v and %d entries: they had the same, and no more", start, one.Base.At, len(one.Entries))
		}
	}
	if match != end(one) {
		t.Fatalf("from %d on, %v and %d entries: they have the same, and the match is %d", start, one.Base.At, len(one.Entries), match)
	}
	return turns
}

// starts are matches to begin with.
func starts(l uint64) []uint64 {
	all := []uint64{math.MaxUint64, api.MaxEpoch}
	for match := range l + 2 {
		all = append(all, match)
	}
	return all
}

// Each pair of small views comes to have the same, from each match on.
func TestBothComeToHaveTheSame(t *testing.T) {
	runs, most := 0, 0
	for common := range 5 {
		for one := range 4 {
			for two := range 5 {
				if one == 0 && two > 0 {
					continue // who has nothing behind it offers nothing in the stead of what the other one has
				}
				p := pairOf(common, one, two)
				for first := range common + one + 1 {
					for second := range common + 1 {
						v, w := p.views(first, second)
						for _, match := range starts(end(v)) {
							most = max(most, ends(t, v, w, match))
							runs++
						}
					}
				}
			}
		}
	}
	if runs < 5000 || most < 5 {
		t.Errorf("%d runs, of %d turns at most", runs, most)
	}
}

// So do long ones.
func TestLongOnesComeToHaveTheSame(t *testing.T) {
	d := dice(41)
	runs, most := 0, 0
	for range 800 {
		p := pairOf(d.roll(60), 1+d.roll(40), d.roll(41))
		first, second := d.roll(len(p.common)+len(p.one)+1), d.roll(len(p.common)+1)
		all := len(p.common) + len(p.one)
		if all-first > api.MaxEntries || all-second > api.MaxEntries || len(p.common)+len(p.two)-second > api.MaxEntries {
			continue
		}
		v, w := p.views(first, second)
		for _, match := range []uint64{0, uint64(d.roll(all + 1)), end(v), math.MaxUint64} {
			most = max(most, ends(t, v, w, match))
			runs++
		}
	}
	if runs < 500 || most < 30 {
		t.Errorf("%d runs, of %d turns at most", runs, most)
	}
}

// Who offers nothing behind what both have changes nothing, and knows how far they have the same.
func TestNothingBehindWhatBothHave(t *testing.T) {
	p := pairOf(5, 0, 4)
	v, w := p.views(2, 1)
	for _, match := range starts(end(v)) {
		is := w
		for range 9 {
			is, match = turn(t, v, is, match)
		}
		if match != 5 || !alike(is.Entries, w.Entries) || is.Base.At != w.Base.At {
			t.Errorf("the match is %d, %v and %d entries", match, is.Base.At, len(is.Entries))
		}
	}
}

// Whatever is accepted: the offered entries stand at their indexes then, and nothing up to Prev's place is touched.
func TestWhatIsAcceptedStandsThere(t *testing.T) {
	d := dice(7)
	fits, puts := 0, 0
	for range 20000 {
		base := uint64(d.roll(12))
		v := view(at(base, uint64(d.roll(3))), thrown(&d, base+1, d.roll(20))...)
		prev := at(uint64(d.roll(int(end(v))+2)), uint64(d.roll(3)))
		if own, ok := read(v).epochs[prev.Index]; ok && d.roll(4) > 0 {
			prev.Epoch = own
		}
		m := offer(prev, thrown(&d, prev.Index+1, d.roll(9))...)
		c, err := ship.Accept(v, m)
		if err != api.OK || !c.Ok {
			continue
		}
		fits++
		puts += min(len(c.Entries), 1)
		if c.Index > end(v)+1 {
			t.Fatalf("it is to be put at %d, and the last one is %d", c.Index, end(v))
		}
		was, is := read(v), read(put(v, c))
		for i, e := range m.Entries {
			if index := prev.Index + 1 + uint64(i); index > base && key(is.entries[index]) != key(e) {
				t.Fatalf("at %d there is %s, not %s", index, key(is.entries[index]), key(e))
			}
		}
		for index, e := range was.entries {
			if index <= prev.Index && key(is.entries[index]) != key(e) {
				t.Fatalf("at %d there is %s, and was %s", index, key(is.entries[index]), key(e))
			}
		}
		if is.base != base || is.last < c.Have && c.Have > base {
			t.Fatalf("the base %d, the last one %d: %+v", is.base, is.last, c)
		}
	}
	if fits < 5000 || puts < 1000 {
		t.Errorf("%d fit, and %d were put", fits, puts)
	}
}

// journal is a new one, that has vowed an epoch.
func journal(t *testing.T) *rib.Journal {
	t.Helper()
	d, _ := disk.New(1 + 1 + 2*400)
	j, err := rib.Format(d, 400)
	if err != api.OK || j.Vow(5) != api.OK {
		t.Fatalf("Format: %d", err)
	}
	return j
}

// puts has a journal have so many entries more, of an epoch; those that are withdrawn again are by source 2.
func puts(t *testing.T, j *rib.Journal, count int, epoch uint64) {
	t.Helper()
	for range count {
		last := j.Last()
		s, _ := j.State(last.Index)
		client := 1 + int(last.Index)%2
		u := api.Update{Prefix: prefixOf(24, 10, byte(epoch), byte(last.Index%7)), Source: 2, Pref: int(epoch), Hop: 1 + int(last.Index)}
		if slices.ContainsFunc(s.Rib.Routes, func(x api.Route) bool { return x.Prefix == u.Prefix }) {
			u.Gone, u.Pref, u.Hop = true, 0, 0
		}
		e := api.Entry{Epoch: epoch, Client: client, Seq: s.Last[client].Seq + 1, Batch: api.Batch{Updates: []api.Update{u}}}
		if err := j.Put(last.Index+1, []api.Entry{e}); err != api.OK {
			t.Fatalf("Put: %d", err)
		}
	}
}

// of is what a journal has, as a view.
func of(j *rib.Journal) api.View {
	return api.View{Vow: j.Epoch(), Base: j.Base(), Entries: j.Entries()}
}

// shipped is one turn of two journals; the match behind it is answered.
func shipped(t *testing.T, one, two *rib.Journal, match uint64) uint64 {
	t.Helper()
	m, err := ship.Offer(of(one), match)
	told := have(m.Base.At.Index, true)
	if m.Kind == api.MsgState {
		is, wrong := ship.Took(of(two), m)
		if err = max(err, wrong); is {
			err = max(err, two.Take(m.Base))
		}
	} else {
		c, wrong := ship.Accept(of(two), m)
		if err = max(err, wrong); len(c.Entries) > 0 {
			err = max(err, two.Put(c.Index, c.Entries))
		}
		told = have(c.Have, c.Ok)
	}
	if err != api.OK {
		t.Fatalf("a turn from %d on: %d", match, err)
	}
	return ship.Match(match, one.Last().Index, told)
}

// What is told here of views holds of journals: they take all that is accepted, and come to have the same RIB.
func TestJournalsComeToHaveTheSame(t *testing.T) {
	kinds := map[int]int{}
	for _, q := range []struct{ common, one, two, first, second int }{
		{0, 1, 0, 0, 0}, {0, 12, 0, 0, 0}, {0, 12, 12, 0, 0}, {0, 9, 3, 9, 0}, {0, 20, 3, 12, 0},
		{6, 1, 0, 0, 0}, {6, 1, 5, 3, 0}, {6, 1, 5, 0, 3}, {6, 10, 20, 6, 2}, {6, 10, 20, 2, 6}, {6, 10, 20, 9, 3}, {6, 10, 20, 16, 6}, {6, 0, 0, 6, 0}, {6, 0, 0, 0, 6},
		{20, 20, 20, 0, 0}, {20, 20, 20, 20, 20}, {20, 20, 20, 30, 10}, {20, 20, 3, 40, 0}, {30, 3, 10, 31, 0},
	} {
		for _, match := range []uint64{0, 1, 5, uint64(q.common), uint64(q.common + q.one), 99} {
			one, two := journal(t), journal(t)
			puts(t, one, q.common, 1)
			puts(t, two, q.common, 1)
			puts(t, one, q.one, 3)
			puts(t, two, q.two, 2)
			if one.Rest(uint64(q.first)) != api.OK || two.Rest(uint64(q.second)) != api.OK {
				t.Fatal("Rest")
			}
			m, _ := ship.Offer(of(one), match)
			kinds[m.Kind]++
			for range len(two.Entries()) + 12 {
				match = shipped(t, one, two, match)
			}
			last := one.Last()
			x, _ := one.State(last.Index)
			y, _ := two.State(last.Index)
			if match != last.Index || two.Last() != last || text(x) != text(y) {
				t.Errorf("%v: the match is %d, the last ones %v and %v: %v and %v", q, match, last, two.Last(), x, y)
			}
		}
	}
	if kinds[api.MsgOffer] < 10 || kinds[api.MsgState] < 10 {
		t.Errorf("too few of a kind: %v", kinds)
	}
}
