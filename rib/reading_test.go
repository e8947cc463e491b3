package rib_test

import (
	"bytes"
	"encoding/binary"
	"slices"

	"junctionbox/api"
	"junctionbox/route"
)

// The chapter's words, read once more: by what a journal would have as a whole.

// entryWrong is why an entry may not stand behind a state.
func entryWrong(vow uint64, s api.Base, e api.Entry) api.Errno {
	if e.Epoch == 0 || e.Epoch > vow || e.Epoch < s.At.Epoch {
		return api.ErrEntry
	}
	if e.Client != 1 && e.Client != 2 || s.Last[e.Client].Seq >= e.Seq {
		return api.ErrEntry
	}
	_, err := route.Apply(s.Rib, e.Batch)
	return err
}

// baseRight is whether a base may be.
func baseRight(vow uint64, b api.Base) bool {
	nothing := b.At == api.At{}
	if nothing {
		return len(b.Rib.Routes) == 0 && b.Last == [3]api.Last{}
	}
	right := b.At.Index > 0 && b.At.Epoch > 0 && b.At.Index <= 1<<62 && b.At.Epoch <= 1<<62 && b.At.Epoch <= vow
	right = right && route.Check(b.Rib) == api.OK && b.Last[0] == api.Last{}
	for _, x := range b.Last[1:] {
		none := x == api.Last{}
		right = right && (none || x.Seq > 0 && x.Index > 0 && x.Index <= b.At.Index)
	}
	return right && (b.Last[1].Index == 0 || b.Last[1].Index != b.Last[2].Index)
}

// right is whether a journal may have all that.
func (h has) right() bool {
	if h.vow > 1<<62 || !baseRight(h.vow, h.base) || len(h.entries) > 40 || h.base.At.Index+uint64(len(h.entries)) > 1<<62 {
		return false
	}
	return h.entriesWrong() == api.OK
}

// entriesWrong is why the first of the entries that may not stand where it does may not.
func (h has) entriesWrong() api.Errno {
	for i, e := range h.entries {
		ahead := has{h.vow, h.base, h.entries[:i]}.states()
		if err := entryWrong(h.vow, ahead[i], e); err != api.OK {
			return err
		}
	}
	return api.OK
}

// reach is whether entries from that index on have a place.
func (h has) reach(index uint64) bool {
	return index > h.base.At.Index && index <= h.base.At.Index+uint64(len(h.entries))+1
}

// put is a journal behind a Put.
func (h has) put(index uint64, l []api.Entry) (has, api.Errno) {
	if !h.reach(index) {
		return has{}, api.ErrArg
	}
	next := h.with(index, l...)
	switch {
	case h.base.At.Index+uint64(len(next.entries)) > 1<<62:
		return has{}, api.ErrArg
	case len(next.entries) > 40:
		return has{}, api.ErrFull
	}
	return next, next.entriesWrong()
}

// snapshotRead is what a snapshot says.
func snapshotRead(b []byte) (has, bool) {
	const lasts = 24
	if len(b) < lasts+2*12+2 {
		return has{}, false
	}
	h := has{vow: binary.BigEndian.Uint64(b)}
	h.base.At = at(binary.BigEndian.Uint64(b[8:]), binary.BigEndian.Uint64(b[16:]))
	for i := range 2 {
		x := b[lasts+12*i:]
		h.base.Last[1+i] = last(binary.BigEndian.Uint32(x), binary.BigEndian.Uint64(x[4:]))
	}
	r, rest, ok := sizedRead(b[lasts+2*12:])
	if !ok {
		return has{}, false
	}
	var err api.Errno
	if h.base.Rib, err = route.Decode(r); err != api.OK {
		return has{}, false
	}
	h.entries, ok = entriesRead(rest)
	return h, ok && h.right() && bytes.Equal(rawSnapshot(h.vow, h.base, h.entries...), b)
}

// sizedRead is bytes of which how many there are stands ahead of them, and what is behind them.
func sizedRead(b []byte) ([]byte, []byte, bool) {
	if len(b) < 2 || len(b) < 2+int(binary.BigEndian.Uint16(b)) {
		return nil, nil, false
	}
	end := 2 + int(binary.BigEndian.Uint16(b))
	return b[2:end], b[end:], true
}

// entriesRead is entries; that nothing stands behind them is seen to by who lays them again.
func entriesRead(b []byte) ([]api.Entry, bool) {
	if len(b) == 0 {
		return nil, false
	}
	count, b := b[0], b[1:]
	var l []api.Entry
	for range count {
		if len(b) < 13 {
			return nil, false
		}
		e := entry(binary.BigEndian.Uint64(b), int(b[8]), binary.BigEndian.Uint32(b[9:]))
		raw, rest, ok := sizedRead(b[13:])
		if !ok {
			return nil, false
		}
		var err api.Errno
		if e.Batch, err = route.DecodeBatch(raw); err != api.OK {
			return nil, false
		}
		l, b = append(l, e), rest
	}
	return l, true
}

// after is a journal behind a transaction.
func (h has) after(b []byte) (has, bool) {
	switch {
	case len(b) == 9 && b[0] == 1:
		epoch := binary.BigEndian.Uint64(b[1:])
		rises := epoch > h.vow
		h.vow = epoch
		return h, rises && h.right()
	case len(b) >= 9 && b[0] == 2:
		index := binary.BigEndian.Uint64(b[1:])
		l, ok := entriesRead(b[9:])
		if !ok || !bytes.Equal(rawPut(index, l...), b) {
			return has{}, false
		}
		next, err := h.put(index, l)
		return next, err == api.OK
	}
	return has{}, false
}

// read is what a log's snapshot and transactions say.
func read(snapshot []byte, transactions ...[]byte) (has, bool) {
	h, ok := snapshotRead(snapshot)
	for _, b := range transactions {
		if !ok {
			return has{}, false
		}
		h, ok = h.after(b)
	}
	return h, ok
}

// spoilt is bytes with each byte another one, cut at each place, and with bytes more at each place.
func spoilt(b []byte) [][]byte {
	var l [][]byte
	for i, x := range b {
		for _, y := range []byte{0, 1, 2, x - 1, x + 1, x ^ 128, 255} {
			if y != x {
				l = append(l, slices.Concat(b[:i], []byte{y}, b[i+1:]))
			}
		}
		l = append(l, b[:i], slices.Concat(b[:i], []byte{0}, b[i:]), slices.Concat(b[:i], b[i+1:]))
	}
	return append(l, slices.Concat(b, []byte{0}), slices.Concat(b, []byte{1}), slices.Concat(b, b))
}
