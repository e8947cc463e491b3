package ship_test

import (
	"math"
	"slices"
	"testing"

	"junctionbox/api"
	"junctionbox/ship"
)

// roomy is entries whose lists have room behind their ends, and something there; all is that row to its end.
func roomy(count int) (l, all []api.Entry) {
	for _, e := range many(count+3, 4, 7) {
		u := append(slices.Clone(e.Batch.Updates), api.Update{Pref: 77}, api.Update{Pref: 78})
		e.Batch.Updates = u[:len(u)-2]
		all = append(all, e)
	}
	return all[:count], all
}

// whole is entries with what stands behind the ends of their lists.
func whole(all []api.Entry) string {
	var out string
	for _, e := range all {
		out += text(e) + text(e.Batch.Updates[:cap(e.Batch.Updates)])
	}
	return out
}

// spoil changes all that stands in entries, and behind the ends of their lists.
func spoil(l []api.Entry) {
	for i := range l {
		u := l[i].Batch.Updates[:cap(l[i].Batch.Updates)]
		for k := range u {
			u[k] = api.Update{Source: 66}
		}
		l[i] = api.Entry{Epoch: 666}
	}
}

// R3

func TestOfferIsNewMemory(t *testing.T) {
	l, all := roomy(12)
	v := api.View{Vow: 9, Base: full(5), Entries: l}
	b := full(5)
	routes := append(b.Rib.Routes, api.Route{Hop: 99})
	v.Base.Rib.Routes = routes[:len(b.Rib.Routes)]
	was := whole(all) + text(routes)
	for _, match := range []uint64{0, 5, 8, 17, 40} {
		m, _ := ship.Offer(v, match)
		again, _ := ship.Offer(v, match)
		told := text(again)
		for i := range m.Entries {
			m.Entries[i].Batch.Updates = append(m.Entries[i].Batch.Updates, api.Update{Pref: 1})
		}
		spoil(append(m.Entries, api.Entry{}))
		m.Base.Rib.Routes = append(m.Base.Rib.Routes, api.Route{})
		clear(m.Base.Rib.Routes)
		if whole(all)+text(routes) != was {
			t.Fatalf("what is offered from %d on shares memory with the view", match)
		}
		if text(again) != told {
			t.Fatalf("what is offered twice from %d on shares memory", match)
		}
	}
	kept, _ := ship.Offer(v, 7)
	base, _ := ship.Offer(v, 3)
	told := text(kept) + text(base)
	spoil(all)
	clear(routes)
	if text(kept)+text(base) != told {
		t.Error("what was offered changes with the view")
	}
}

func TestAcceptIsNewMemory(t *testing.T) {
	own, ownAll := roomy(6)
	l, all := roomy(8)
	l[2].Seq = 999
	v, m := view(at(5, 4), own...), offer(at(5, 4), l...)
	v.Entries, m.Entries = own, l
	was := whole(ownAll) + whole(all)
	c, err := ship.Accept(v, m)
	again, _ := ship.Accept(v, m)
	told := text(again)
	if err != api.OK || c.Index != 8 || !alike(c.Entries, l[2:]) {
		t.Fatalf("Accept: %+v, %d", c, err)
	}
	for i := range c.Entries {
		c.Entries[i].Batch.Updates = append(c.Entries[i].Batch.Updates, api.Update{Pref: 1})
	}
	spoil(append(c.Entries, api.Entry{}))
	if whole(ownAll)+whole(all) != was {
		t.Error("what is to be put shares memory with what was handed in")
	}
	if text(again) != told {
		t.Error("what is to be put shares memory with what is told once more")
	}
	spoil(all)
	spoil(ownAll)
	if text(again) != told {
		t.Error("what is to be put changes with what was handed in")
	}
}

// No two lists of one answer share memory, also if those that were handed in do.
func TestListsOfOneAnswer(t *testing.T) {
	one := many(3, 4, 7)[2]
	v := view(at(5, 4), one, one, one)
	m, _ := ship.Offer(v, 5)
	c, _ := ship.Accept(view(at(5, 4)), m)
	d, _ := ship.Accept(view(at(5, 4)), offer(at(5, 4), one, one, one))
	for _, l := range [][]api.Entry{m.Entries, c.Entries, d.Entries} {
		if len(l) != 3 {
			t.Fatalf("%d entries", len(l))
		}
		spoil(l[:1])
		if key(l[1]) != key(one) || key(l[2]) != key(one) {
			t.Error("two entries of one answer share a list")
		}
	}
}

// R3: nothing changes what is handed in. R5: what was asked ahead of it changes no answer.
func TestNothingIsKept(t *testing.T) {
	own, ownAll := roomy(6)
	l, all := roomy(8)
	v, m, s := view(at(5, 4)), offer(at(6, 4)), state(at(8, 4))
	v.Entries, m.Entries = own, l
	v.Base, s.Base = full(5), full(8)
	was := text(v) + text(m) + text(s) + whole(ownAll) + whole(all)
	var told []string
	for range 3 {
		c, err := ship.Accept(v, m)
		o, wrong := ship.Offer(v, 6)
		b, bad := ship.Offer(v, 1)
		took, no := ship.Took(v, s)
		place, ok := ship.Place(v, 7)
		told = append(told, text([]any{c, err, o, wrong, b, bad, took, no, place, ok, ship.Check(v), ship.Match(3, 9, have(8, true))}))
		ship.Accept(view(at(0, 0), many(40, 2, 1)...), offer(at(3, 2), many(8, 2, 2)...))
		ship.Offer(api.View{}, 9)
	}
	if told[0] != told[1] || told[1] != told[2] {
		t.Errorf("other answers to the same: %s", told)
	}
	if text(v)+text(m)+text(s)+whole(ownAll)+whole(all) != was {
		t.Error("what was handed in is changed")
	}
}

// R1, R2: whatever is handed in, each call ends, and beside an error all else is zero.
func TestWhateverIsHandedIn(t *testing.T) {
	numbers := []uint64{0, 1, 2, 40, 41, 48, api.MaxEpoch - 1, api.MaxEpoch, api.MaxEpoch + 1, 1 << 63, math.MaxUint64 - 41, math.MaxUint64 - 1, math.MaxUint64}
	asked := 0
	for _, base := range numbers {
		for _, count := range []int{0, 1, 2, 39, 40, 41, 100} {
			v := view(at(base, 1), make([]api.Entry, count)...)
			r := read(v)
			for _, index := range numbers {
				place, ok := ship.Place(v, index)
				if !ok && place != (api.At{}) || ok && (r.wrong || place != at(index, r.epochs[index])) {
					t.Errorf("Place(%v and %d entries, %d): %v, %t", v.Base.At, count, index, place, ok)
				}
				want, wrong := r.offers(v.Base, index)
				offered(t, v, index, want, wrong)
				for _, length := range []int{0, 1, 8, 9} {
					for kind := range 5 {
						m := api.Msg{Kind: kind, Prev: at(index, 1), Entries: make([]api.Entry, length), Base: api.Base{At: at(index, 1)}}
						c, wrong := r.makes(m)
						accepted(t, v, m, c, wrong)
						b, wrong := r.takes(m)
						took(t, v, m, b, wrong)
						asked++
					}
				}
			}
		}
	}
	if asked < 10000 {
		t.Errorf("asked %d times", asked)
	}
}
