package frame_test

import (
	"bytes"
	"math"
	"slices"
	"testing"

	"junctionbox/api"
	"junctionbox/frame"
)

// The chapter's examples.
func TestExamples(t *testing.T) {
	m := api.Msg{Kind: api.MsgAsk, From: 1, To: 2, Epoch: 3, Stamp: 7}
	want := []byte{4, 1, 2, 0, 0, 0, 0, 0, 0, 0, 3, 0, 0, 0, 0, 0, 0, 0, 7}
	if b, err := frame.Encode(m); err != api.OK || len(b) != len(want)+4 || !bytes.Equal(b[:len(want)], want) {
		t.Errorf("Encode: %x, %d", b, err)
	}
	if err := frame.Check(api.Msg{Kind: api.MsgAsk, From: 1, To: 1, Epoch: 3, Stamp: 7}); err != api.ErrMsg {
		t.Errorf("Check of an ask from 1 to 1: %d", err)
	}
	if err := frame.Check(api.Msg{Kind: api.MsgSubmit, From: 3, To: 1, Epoch: 1, Seq: 1, Batch: small()}); err != api.ErrMsg {
		t.Errorf("Check of a submit of the Epoch 1: %d", err)
	}
	noFrame(t, "three bytes", []byte{0, 0, 0}, api.ErrShort)
	noFrame(t, "four noughts", []byte{0, 0, 0, 0}, api.ErrFrame)
}

// roomy is messages with lists that have room behind their ends, and something there; all of it, to the ends of the room, is told by room.
func roomy() (l []api.Msg, room func() string) {
	u := append(great().Updates, put(pfx(), 9, 9, 9))
	routes := append(ribOf(2, 2).Routes, api.Route{Hop: 999})
	entries := append(eight(9, api.Batch{Updates: u[:8]})[:3], entry(999, 9, 9, small()), entry(999, 9, 9, api.Batch{}))
	l = []api.Msg{offer(at(4, 4), 3, entries[:3]...), state(at(5, 4), 3, lasts(last(7, 5), last(0, 0)), api.Rib{Routes: routes[:4]}), submit(4, api.Batch{Updates: u[:8]})}
	return l, func() string { return text(u) + text(routes) + text(entries) + text(l) }
}

// R3: nothing is changed of what is handed in, and what stands behind a list's end is not told.
func TestWhatIsHandedInStays(t *testing.T) {
	l, room := roomy()
	was := room()
	for _, m := range l {
		b, err := frame.Encode(m)
		if err != api.OK || !bytes.Equal(b, sealed(raw(m))) {
			t.Fatalf("Encode(%s): %x, %d", short(m), b, err)
		}
		frame.Check(m)
		frame.Same(m, l[0])
		if room() != was {
			t.Fatalf("what was handed in is changed by %s", short(m))
		}
		wire := append(slices.Clone(b), 1, 2, 3)
		got, err := frame.Decode(wire[:len(b)])
		if err != api.OK || text(got) != text(m) || !bytes.Equal(wire, append(slices.Clone(b), 1, 2, 3)) {
			t.Fatalf("Decode(%x): %s, %d", wire, short(got), err)
		}
	}
}

// R3: what is answered is new memory, and no two lists of one answer share any. R5: the same is answered again.
func TestAnswersAreNewMemory(t *testing.T) {
	l, room := roomy()
	was := room()
	for _, m := range l {
		b, _ := frame.Encode(m)
		again, _ := frame.Encode(m)
		got, _ := frame.Decode(again)
		twice, _ := frame.Decode(again)
		told := text(got)
		for i := range got.Entries {
			u := got.Entries[i].Batch.Updates
			u = append(u, put(pfx(), 9, 9, 9))
			clear(u[:cap(u)])
			clear(got.Entries[i].Batch.Updates)
			for k := range got.Entries {
				if k > i && text(got.Entries[k]) != text(twice.Entries[k]) {
					t.Fatalf("two entries of one answer share a list")
				}
			}
		}
		clear(got.Entries[:cap(got.Entries)])
		clear(got.Base.Rib.Routes[:cap(got.Base.Rib.Routes)])
		clear(got.Batch.Updates[:cap(got.Batch.Updates)])
		clear(b[:cap(b)])
		if text(twice) != told || !bytes.Equal(again, sealed(raw(m))) || room() != was {
			t.Fatalf("answers of %s share memory", short(m))
		}
		clear(again)
		if text(twice) != told {
			t.Fatalf("a message shares memory with its bytes")
		}
	}
}

// R1: whatever is handed in, each call ends.
func TestWhateverIsHandedIn(t *testing.T) {
	many := make([]api.Entry, 100000)
	lots := slices.Repeat(great().Updates, 10000)
	routes := make([]api.Route, 100000)
	odd := entry(math.MaxUint64, math.MinInt, math.MaxUint32, batch(put(prefixOf(-1, -1), -1, -1, -1), put(prefixOf(4, math.MaxInt), 1, 0, 1)))
	for kind := -2; kind < 10; kind++ {
		for _, from := range []int{math.MinInt, 0, 1, 2, 3, math.MaxInt} {
			for _, to := range []int{math.MinInt, 0, 1, 2, 4, math.MaxInt} {
				m := api.Msg{Kind: kind, From: from, To: to, Epoch: 1, Seq: 1, Entries: many, Batch: api.Batch{Updates: lots}, Base: api.Base{Rib: api.Rib{Routes: routes}}}
				checked(t, "long lists", m, api.ErrMsg)
				m.Entries, m.Batch, m.Base.Rib = []api.Entry{odd}, odd.Batch, api.Rib{Routes: []api.Route{{Prefix: prefixOf(6, math.MinInt), Source: 1, Hop: 1}}}
				checked(t, "odd ones", m, api.ErrMsg)
			}
		}
	}
	for kind := range 256 {
		for _, head := range [][]byte{{1, 2}, {2, 3}, {3, 1}} {
			for _, fill := range []byte{0, 1, 4, 255} {
				for _, size := range []int{0, 8, 9, 30, 59, 300, 5000} {
					b := slices.Concat([]byte{byte(kind)}, head, bytes.Repeat([]byte{fill}, size))
					decoded(t, b)
				}
			}
		}
	}
	noFrame(t, "a great many bytes", sealed(slices.Concat(raw(submit(4, small())), make([]byte, 1<<20))), api.ErrFrame)
}
