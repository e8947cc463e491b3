package ship_test

import (
	"fmt"
	"iter"
	"slices"
	"strings"
	"testing"

	"junctionbox/api"
	"junctionbox/ship"
)

// at is a place.
func at(index, epoch uint64) api.At {
	return api.At{Index: index, Epoch: epoch}
}

// prefixOf is a prefix of so many bits; bytes of the address that are not told are noughts.
func prefixOf(bits int, b ...byte) api.Prefix {
	p := api.Prefix{Addr: api.Addr{Version: 4}, Bits: bits}
	copy(p.Addr.Bytes[:], b)
	return p
}

// named is an entry by its name: the letter says what it brings, the number behind it is the epoch.
func named(name string) api.Entry {
	e := api.Entry{Client: 1 + int(name[0])%2, Seq: uint32(name[0])}
	fmt.Sscan(name[1:], &e.Epoch)
	e.Batch.Updates = []api.Update{{Prefix: prefixOf(16, 10, name[0]), Source: 1, Pref: 5, Hop: 7}}
	return e
}

// row is entries by their names.
func row(names string) []api.Entry {
	var l []api.Entry
	for _, name := range strings.Fields(names) {
		l = append(l, named(name))
	}
	return l
}

// many is so many entries of an epoch; a mark of their own tells them from others.
func many(count int, epoch uint64, mark byte) []api.Entry {
	var l []api.Entry
	for i := range count {
		e := api.Entry{Epoch: epoch, Client: 1 + i%2, Seq: uint32(i + 1)}
		for k := range 1 + i%3 {
			e.Batch.Updates = append(e.Batch.Updates, api.Update{Prefix: prefixOf(24, mark, byte(i), byte(k)), Source: 1 + k, Pref: i, Hop: 1 + k})
		}
		l = append(l, e)
	}
	return l
}

// view is one by its base's place, and its entries.
func view(base api.At, l ...api.Entry) api.View {
	return api.View{Vow: 9, Base: api.Base{At: base}, Entries: l}
}

// offer is a MsgOffer.
func offer(prev api.At, l ...api.Entry) api.Msg {
	return api.Msg{Kind: 1, From: 1, To: 2, Epoch: 9, Prev: prev, Entries: l, Done: 1}
}

// have is a MsgHave, and state a MsgState.
func have(index uint64, ok bool) api.Msg {
	return api.Msg{Kind: 2, From: 2, To: 1, Epoch: 9, Ok: ok, Index: index}
}

func state(base api.At) api.Msg {
	return api.Msg{Kind: 3, From: 1, To: 2, Epoch: 9, Base: api.Base{At: base}}
}

// text is all of it; nil and empty lists are one.
func text(x any) string {
	return fmt.Sprintf("%+v", x)
}

// key is all of an entry, in short.
func key(e api.Entry) string {
	b := fmt.Appendf(nil, "%d %d %d", e.Epoch, e.Client, e.Seq)
	for _, u := range e.Batch.Updates {
		b = fmt.Appendf(b, ", %x/%d %d %t %d %d", u.Prefix.Addr, u.Prefix.Bits, u.Source, u.Gone, u.Pref, u.Hop)
	}
	return string(b)
}

// reading is a view read once more: the least and the last index, and what stands at each index.
type reading struct {
	base, last uint64
	epochs     map[uint64]uint64
	entries    map[uint64]api.Entry
	wrong      bool
}

func read(v api.View) reading {
	r := reading{base: v.Base.At.Index, last: v.Base.At.Index, epochs: map[uint64]uint64{}, entries: map[uint64]api.Entry{}}
	r.wrong = r.base >= 1<<62+1 || len(v.Entries) >= 41
	r.epochs[r.base] = v.Base.At.Epoch
	for _, e := range v.Entries {
		r.last++
		r.epochs[r.last], r.entries[r.last] = e.Epoch, e
	}
	return r
}

// offers is what is offered, by the chapter's words.
func (r reading) offers(base api.Base, match uint64) (api.Msg, api.Errno) {
	switch {
	case r.wrong:
		return api.Msg{}, 240
	case match > r.last:
		return r.offers(base, r.last)
	case match < r.base:
		return api.Msg{Kind: 3, Base: base}, 0
	}
	m := api.Msg{Kind: 1, Prev: at(match, r.epochs[match])}
	for match++; match <= r.last && len(m.Entries) < 8; match++ {
		m.Entries = append(m.Entries, r.entries[match])
	}
	return m, 0
}

// makes is what an offer makes of a view, by the chapter's words.
func (r reading) makes(m api.Msg) (api.Change, api.Errno) {
	switch {
	case r.wrong:
		return api.Change{}, 240
	case m.Kind != 1 || len(m.Entries) >= 9 || m.Prev.Index >= 1<<62+1:
		return api.Change{}, 2
	case m.Prev.Index > r.last:
		return api.Change{Have: r.last}, 0
	}
	if epoch, ok := r.epochs[m.Prev.Index]; ok && epoch != m.Prev.Epoch {
		if m.Prev.Index == 0 {
			return api.Change{}, 0
		}
		return api.Change{Have: m.Prev.Index - 1}, 0
	}
	c := api.Change{Ok: true, Have: m.Prev.Index}
	for _, e := range m.Entries {
		c.Have++
		own, ok := r.entries[c.Have]
		if c.Index == 0 && c.Have > r.base && (!ok || key(own) != key(e)) {
			c.Index = c.Have
		}
		if c.Index > 0 {
			c.Entries = append(c.Entries, e)
		}
	}
	return c, 0
}

// takes is whether a base is to be taken, by the chapter's words.
func (r reading) takes(m api.Msg) (bool, api.Errno) {
	switch index := m.Base.At.Index; {
	case r.wrong:
		return false, 240
	case m.Kind != 3 || index >= 1<<62+1:
		return false, 2
	case index < r.base:
		return false, 0
	default:
		epoch, ok := r.epochs[index]
		return !ok || epoch != m.Base.At.Epoch, 0
	}
}

// placed asks for a place, and fails a test, if another one is told.
func placed(t *testing.T, v api.View, index uint64, want api.At, found bool) {
	t.Helper()
	if got, ok := ship.Place(v, index); got != want || ok != found {
		t.Errorf("Place(%v and %d entries, %d): %v, %t, not %v, %t", v.Base.At, len(v.Entries), index, got, ok, want, found)
	}
}

// offered asks what is offered, and fails a test, if it is something else.
func offered(t *testing.T, v api.View, match uint64, want api.Msg, wrong api.Errno) {
	t.Helper()
	if got, err := ship.Offer(v, match); err != wrong || text(got) != text(want) {
		t.Errorf("Offer(%v and %d entries, %d): %+v, %d, not %+v, %d", v.Base.At, len(v.Entries), match, got, err, want, wrong)
	}
}

// accepted asks what an offer makes of a view, and fails a test, if it is something else.
func accepted(t *testing.T, v api.View, m api.Msg, want api.Change, wrong api.Errno) {
	t.Helper()
	got, err := ship.Accept(v, m)
	if err != wrong || got.Ok != want.Ok || got.Index != want.Index || got.Have != want.Have || !alike(got.Entries, want.Entries) {
		t.Errorf("Accept(%v and %d entries, Prev %v and %d entries): %+v, %d, not %+v, %d", v.Base.At, len(v.Entries), m.Prev, len(m.Entries), got, err, want, wrong)
	}
}

// alike is whether both have the same entries.
func alike(a, b []api.Entry) bool {
	return slices.EqualFunc(a, b, func(x, y api.Entry) bool { return key(x) == key(y) })
}

// took asks whether a base is to be taken, and fails a test, if that is told otherwise.
func took(t *testing.T, v api.View, m api.Msg, want bool, wrong api.Errno) {
	t.Helper()
	if got, err := ship.Took(v, m); got != want || err != wrong {
		t.Errorf("Took(%v and %d entries, %d: %v): %t, %d, not %t, %d", v.Base.At, len(v.Entries), m.Kind, m.Base.At, got, err, want, wrong)
	}
}

// matched asks for the match, and fails a test, if it is another one.
func matched(t *testing.T, match, last uint64, m api.Msg, want uint64) {
	t.Helper()
	if got := ship.Match(match, last, m); got != want {
		t.Errorf("Match(%d, %d, %d: %d, %t): %d, not %d", match, last, m.Kind, m.Index, m.Ok, got, want)
	}
}

// rows are all rows of at most so many entries of these names.
func rows(most int, names ...string) []string {
	all := []string{""}
	for from := 0; most > 0; most-- {
		end := len(all)
		for _, ahead := range all[from:end] {
			for _, name := range names {
				all = append(all, ahead+" "+name)
			}
		}
		from = end
	}
	return all
}

// places are all of these indexes and epochs.
func places(indexes, epochs []uint64) iter.Seq[api.At] {
	return func(yield func(api.At) bool) {
		for _, index := range indexes {
			for _, epoch := range epochs {
				if !yield(at(index, epoch)) {
					return
				}
			}
		}
	}
}

// dice are numbers that look thrown, the same ones each time.
type dice uint64

func (d *dice) roll(n int) int {
	*d = *d*6364136223846793005 + 1442695040888963407
	return int(uint64(*d) >> 33 % uint64(n))
}
