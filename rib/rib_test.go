package rib_test

import (
	"math"
	"slices"
	"testing"

	"junctionbox/api"
	"junctionbox/disk"
	"junctionbox/rib"
	"junctionbox/wal"
)

// P12.1: Format

func TestFormat(t *testing.T) {
	for _, area := range []int{4, 5, 400, 1000} {
		j, d := formatted(t, area)
		tells(t, "Format", j, has{})
		if j.Down() {
			t.Error("it is down")
		}
		lies(t, "Format", d, logged{turn: 2, snapshot: rawSnapshot(0, api.Base{})})
		lasts(t, "Format", d, has{})
	}
}

func TestFormatAsksForTheSameActs(t *testing.T) {
	d, hand := made(t, 4), made(t, 4)
	_, err := rib.Format(d, 4)
	is(t, "Format", err, api.OK)
	w, err := wal.Format(hand, 4)
	does(t, "wal.Format", err, w.Checkpoint(rawSnapshot(0, api.Base{})))
	if d.Ops() != hand.Ops() {
		t.Errorf("%d acts, not %d", d.Ops(), hand.Ops())
	}
	for i := range d.Len() {
		x, _ := d.Read(i)
		if y, _ := hand.Read(i); x != y {
			t.Errorf("the sector %d is another one", i)
		}
	}
}

func TestFormatAnew(t *testing.T) {
	j, d := formatted(t, 20)
	does(t, "a journal", j.Vow(3), j.Put(1, row(2, 1, 3)))
	j, err := rib.Format(d, 20)
	does(t, "Format", err)
	tells(t, "Format anew", j, has{})
	lasts(t, "Format anew", d, has{})
}

func TestFormatErrors(t *testing.T) {
	small, err := disk.New(9)
	does(t, "disk.New", err)
	for _, q := range []struct {
		d    *disk.Disk
		area int
		err  api.Errno
	}{
		{nil, 4, api.ErrNil}, {nil, 0, api.ErrNil}, {small, 4, api.ErrArg}, {made(t, 4), 3, api.ErrArg}, {made(t, 4), 5, api.ErrArg},
		{made(t, 4), 0, api.ErrArg}, {made(t, 4), -1, api.ErrArg}, {made(t, 1000), 1001, api.ErrArg}, {made(t, 4), math.MaxInt, api.ErrArg}, {made(t, 4), math.MinInt, api.ErrArg},
	} {
		if j, err := rib.Format(q.d, q.area); j != nil || err != q.err {
			t.Errorf("Format of areas of %d: %v, %d, not %d", q.area, j != nil, err, q.err)
		}
		if q.d.Ops() != 0 {
			t.Errorf("Format of areas of %d has asked the disk for something", q.area)
		}
	}
	_, whole := formatted(t, 4)
	for n := range whole.Ops() {
		d := made(t, 4)
		does(t, "Fail", d.Fail(n))
		if j, err := rib.Format(d, 4); j != nil || err != api.ErrIo {
			t.Errorf("an act that fails at %d: %v, %d", n, j != nil, err)
		}
		d = made(t, 4)
		does(t, "Arm", d.Arm(n))
		if j, err := rib.Format(d, 4); j != nil || err != api.ErrDead {
			t.Errorf("no power at %d: %v, %d", n, j != nil, err)
		}
	}
}

// P12.2: Vow

func TestVow(t *testing.T) {
	j, d := formatted(t, 40)
	log := logOf(t, d)
	for _, epoch := range []uint64{1, 2, 7, 1 << 40, api.MaxEpoch - 1, api.MaxEpoch} {
		is(t, "Vow", j.Vow(epoch), api.OK)
		tells(t, "Vow", j, has{vow: epoch})
		log = log.with(rawVow(epoch))
		lies(t, "Vow", d, log)
		lasts(t, "Vow", d, has{vow: epoch})
		stays(t, "Vow of the vow", j, d, api.OK, func() api.Errno { return j.Vow(epoch) })
		for _, less := range []uint64{0, 1, epoch / 2, epoch - 1} {
			if less != epoch {
				stays(t, "Vow below the vow", j, d, api.ErrBelow, func() api.Errno { return j.Vow(less) })
			}
		}
		for _, more := range []uint64{api.MaxEpoch + 1, 1<<63 - 1, 1 << 63, math.MaxUint64} {
			stays(t, "Vow above MaxEpoch", j, d, api.ErrArg, func() api.Errno { return j.Vow(more) })
		}
	}
}

func TestVowOfNothing(t *testing.T) {
	j, d := formatted(t, 4)
	stays(t, "Vow(0)", j, d, api.OK, func() api.Errno { return j.Vow(0) })
	stays(t, "Vow above MaxEpoch", j, d, api.ErrArg, func() api.Errno { return j.Vow(api.MaxEpoch + 1) })
}

// P12.2: Put

func TestExamples(t *testing.T) {
	j, d := formatted(t, 40)
	b, away := put(pfx(), 2, 5, 7), gone(pfx(), 2)
	one := entry(1, 1, 1, b)
	stays(t, "no vow", j, d, api.ErrEntry, func() api.Errno { return j.Put(1, []api.Entry{one}) })
	is(t, "Vow(2)", j.Vow(2), api.OK)
	is(t, "Put(1)", j.Put(1, []api.Entry{one}), api.OK)
	tells(t, "Put(1)", j, has{vow: 2}.with(1, one))
	stays(t, "Put(3)", j, d, api.ErrArg, func() api.Errno { return j.Put(3, nil) })
	stays(t, "another source", j, d, api.ErrNone, func() api.Errno { return j.Put(2, []api.Entry{entry(1, 1, 2, gone(pfx(), 1))}) })
	is(t, "Put(2)", j.Put(2, []api.Entry{entry(2, 1, 2, away)}), api.OK)
	if s, ok := j.State(2); !ok || !sameBase(s, base(at(2, 2), last(2, 2), last(0, 0))) {
		t.Errorf("State(2): %v, %v", s, ok)
	}
	is(t, "Put(2, none)", j.Put(2, nil), api.OK)
	tells(t, "Put(2, none)", j, has{vow: 2}.with(1, one))
	stays(t, "Vow(1)", j, d, api.ErrBelow, func() api.Errno { return j.Vow(1) })
	stays(t, "Vow(2)", j, d, api.OK, func() api.Errno { return j.Vow(2) })
	is(t, "Rest(1)", j.Rest(1), api.OK)
	tells(t, "Rest(1)", j, has{vow: 2, base: base(at(1, 1), last(1, 1), last(0, 0), cand(pfx(), 2, 5, 7))})
	stays(t, "the Seq 1", j, d, api.ErrEntry, func() api.Errno { return j.Put(2, []api.Entry{entry(2, 1, 1, b)}) })
	stays(t, "Take(5, 3)", j, d, api.ErrArg, func() api.Errno { return j.Take(base(at(5, 3), last(0, 0), last(0, 0))) })
	is(t, "Take(5, 2)", j.Take(base(at(5, 2), last(0, 0), last(0, 0))), api.OK)
	tells(t, "Take(5, 2)", j, has{vow: 2, base: base(at(5, 2), last(0, 0), last(0, 0))})
	lasts(t, "all", d, has{vow: 2, base: base(at(5, 2), last(0, 0), last(0, 0))})
}

func TestPut(t *testing.T) {
	j, d := formatted(t, 200)
	is(t, "Vow", j.Vow(9), api.OK)
	h, log := has{vow: 9}, logOf(t, d)
	p := pfx()
	for _, q := range []struct {
		name  string
		index uint64
		l     []api.Entry
	}{
		{"one", 1, []api.Entry{entry(1, 1, 1, put(p, 1, 0, 1))}},
		{"one behind", 2, []api.Entry{entry(1, 2, 1, put(p, 1, 255, 255), put(nth(0), 4, 1, 2))}},
		{"three behind", 3, []api.Entry{entry(1, 2, 7, gone(p, 1)), entry(3, 1, 8, put(p, 3, 1, 1)), entry(9, 2, math.MaxUint32, put(p, 2, 1, 1))}},
		{"another last one", 5, []api.Entry{entry(3, 2, 8, gone(p, 3))}},
		{"the same last one, and one more", 5, []api.Entry{entry(3, 2, 8, gone(p, 3)), entry(3, 2, 9, put(p, 3, 0, 5))}},
		{"fewer", 5, []api.Entry{entry(3, 2, 8, gone(p, 3))}},
		{"none from the midst on", 4, nil},
		{"more than there were", 3, bigs(4, 9, 10)},
		{"others from the first on", 1, row(2, 5, 40)},
		{"another Epoch", 40, row(3, 44, 1)},
		{"another Client", 40, []api.Entry{entry(3, 2, 44, row(3, 44, 1)[0].Batch.Updates...)}},
		{"another Seq", 40, []api.Entry{entry(3, 2, 45, row(3, 44, 1)[0].Batch.Updates...)}},
		{"another Batch", 40, []api.Entry{entry(3, 2, 45, put(p, 1, 6, 45))}},
		{"none at all", 1, nil},
		{"forty great ones", 1, bigs(9, 1, 40)},
	} {
		is(t, q.name, j.Put(q.index, q.l), api.OK)
		h, log = h.with(q.index, q.l...), log.with(rawPut(q.index, q.l...))
		tells(t, q.name, j, h)
		lies(t, q.name, d, log)
		lasts(t, q.name, d, h)
	}
}

func TestPutOfWhatIsThere(t *testing.T) {
	j, d := formatted(t, 100)
	is(t, "Vow", j.Vow(2), api.OK)
	stays(t, "none behind nothing", j, d, api.OK, func() api.Errno { return j.Put(1, nil) })
	stays(t, "none behind nothing", j, d, api.OK, func() api.Errno { return j.Put(1, []api.Entry{}) })
	l := bigs(2, 1, 10)
	is(t, "Put", j.Put(1, l), api.OK)
	for i := range 11 {
		stays(t, "entries that are there", j, d, api.OK, func() api.Errno { return j.Put(uint64(1+i), copied(l[i:])) })
	}
	is(t, "Rest", j.Rest(4), api.OK)
	for i := 4; i < 11; i++ {
		stays(t, "entries that are there behind a base", j, d, api.OK, func() api.Errno { return j.Put(uint64(1+i), copied(l[i:])) })
	}
}

// copied is the same entries in other memory.
func copied(l []api.Entry) []api.Entry {
	out := slices.Clone(l)
	for i := range out {
		out[i].Batch.Updates = slices.Clone(out[i].Batch.Updates)
	}
	return out
}

// journals is a journal of each kind: with nothing, with entries, with a base, with both.
func journals(t *testing.T, check func(j *rib.Journal, d *disk.Disk, h has)) {
	t.Helper()
	for kind := range 4 {
		j, d := formatted(t, 300)
		h := has{vow: 5}
		does(t, "Vow", j.Vow(5))
		if kind >= 2 {
			h.base = base(at(70, 3), last(6, 70), last(9, 41), wide(2, 3)...)
			does(t, "Take", j.Take(h.base))
		}
		if kind%2 == 1 {
			first := h.base.At.Index + 1
			l := []api.Entry{entry(3, 1, 10, put(pfx(), 1, 5, 9)), entry(4, 2, 10, put(nth(3), 2, 5, 7)), entry(4, 1, 20, gone(pfx(), 1))}
			does(t, "Put", j.Put(first, l))
			h = h.with(first, l...)
		}
		check(j, d, h)
	}
}

func TestPutAtAWrongIndex(t *testing.T) {
	journals(t, func(j *rib.Journal, d *disk.Disk, h has) {
		first := h.base.At.Index
		next := first + uint64(len(h.entries)) + 1
		for _, index := range []uint64{0, first - 1, first, next + 1, next + 2, next + 256, next + 1<<32, next + 1<<63, math.MaxUint64} {
			for _, l := range [][]api.Entry{nil, h.entries, row(5, 30, 1), row(5, 30, 50), row(0, 0, 1), {{}}} {
				stays(t, "a wrong index", j, d, api.ErrArg, func() api.Errno { return j.Put(index, l) })
			}
		}
	})
}

func TestPutUpToTheLastIndex(t *testing.T) {
	for _, index := range []uint64{api.MaxEpoch, api.MaxEpoch - 1, api.MaxEpoch - 3} {
		j, d := formatted(t, 300)
		h := has{vow: 5, base: base(at(index, 5), last(1, 1), last(0, 0))}
		does(t, "a base", j.Vow(5), j.Take(h.base))
		room := int(api.MaxEpoch - index)
		for _, count := range []int{room + 1, room + 2, 40, 41} {
			stays(t, "too great an index", j, d, api.ErrArg, func() api.Errno { return j.Put(index+1, row(5, 2, count)) })
		}
		l := row(5, 2, room)
		is(t, "up to the last one", j.Put(index+1, l), api.OK)
		h = h.with(index+1, l...)
		tells(t, "up to the last one", j, h)
		lasts(t, "up to the last one", d, h)
		stays(t, "one more", j, d, api.ErrArg, func() api.Errno { return j.Put(api.MaxEpoch+1, row(5, 9, 1)) })
		stays(t, "none more", j, d, api.OK, func() api.Errno { return j.Put(api.MaxEpoch+1, nil) })
		stays(t, "none further on", j, d, api.ErrArg, func() api.Errno { return j.Put(api.MaxEpoch+2, nil) })
		is(t, "Rest", j.Rest(api.MaxEpoch), api.OK)
		lasts(t, "Rest at the last one", d, has{5, h.states()[room], nil})
	}
}

func TestPutOfTooMany(t *testing.T) {
	for _, first := range []uint64{0, 70} {
		j, d := formatted(t, 400)
		h := has{vow: 5}
		does(t, "Vow", j.Vow(5))
		if first > 0 {
			h.base = base(at(first, 1), last(1, 1), last(0, 0))
			does(t, "Take", j.Take(h.base))
		}
		for _, count := range []int{41, 42, 255, 256, 257, 296, 1000} {
			stays(t, "too many", j, d, api.ErrFull, func() api.Errno { return j.Put(first+1, row(5, 2, count)) })
			stays(t, "too many wrong ones", j, d, api.ErrFull, func() api.Errno { return j.Put(first+1, make([]api.Entry, count)) })
		}
		l := row(5, 2, 39)
		is(t, "39", j.Put(first+1, l), api.OK)
		stays(t, "two more", j, d, api.ErrFull, func() api.Errno { return j.Put(first+40, row(5, 50, 2)) })
		stays(t, "from the midst on", j, d, api.ErrFull, func() api.Errno { return j.Put(first+20, row(5, 50, 22)) })
		is(t, "one more", j.Put(first+40, row(5, 50, 1)), api.OK)
		stays(t, "41", j, d, api.ErrFull, func() api.Errno { return j.Put(first+41, row(5, 60, 1)) })
		is(t, "others in their stead", j.Put(first+20, row(5, 50, 21)), api.OK)
		lasts(t, "others in their stead", d, h.with(first+1, l...).with(first+20, row(5, 50, 21)...))
	}
}

// TestPutOfWrongEntries has each wrong entry stand at each place of entries that are right, and behind each of those that are there.
func TestPutOfWrongEntries(t *testing.T) {
	journals(t, func(j *rib.Journal, d *disk.Disk, h has) {
		p := pfx()
		first := h.base.At.Index
		for i := range len(h.entries) + 1 {
			index := first + uint64(i) + 1
			right := []api.Entry{entry(4, 1, 50, put(p, 4, 0, 1)), entry(4, 2, 50, put(p, 4, 1, 1)), entry(5, 1, 51, put(p, 4, 0, 1))}
			for k := range right {
				for _, q := range []struct {
					name   string
					change func(e *api.Entry)
					err    api.Errno
				}{
					{"Epoch 0", func(e *api.Entry) { e.Epoch = 0 }, api.ErrEntry},
					{"Epoch above the vow", func(e *api.Entry) { e.Epoch = 6 }, api.ErrEntry},
					{"Epoch that is far too great", func(e *api.Entry) { e.Epoch = math.MaxUint64 }, api.ErrEntry},
					{"Client 0", func(e *api.Entry) { e.Client = 0 }, api.ErrEntry},
					{"Client 3", func(e *api.Entry) { e.Client = 3 }, api.ErrEntry},
					{"Client -1", func(e *api.Entry) { e.Client = -1 }, api.ErrEntry},
					{"Client 257", func(e *api.Entry) { e.Client = 257 }, api.ErrEntry},
					{"Client of the greatest number", func(e *api.Entry) { e.Client = math.MaxInt }, api.ErrEntry},
					{"Client of the least number", func(e *api.Entry) { e.Client = math.MinInt }, api.ErrEntry},
					{"Seq 0", func(e *api.Entry) { e.Seq = 0 }, api.ErrEntry},
					{"no updates", func(e *api.Entry) { e.Batch = api.Batch{} }, api.ErrBatch},
					{"a wrong update", func(e *api.Entry) { e.Batch = batch(put(p, 4, 0, 0)) }, api.ErrBatch},
					{"nine updates", func(e *api.Entry) { e.Batch = batch(slices.Repeat(e.Batch.Updates, 9)...) }, api.ErrBatch},
					{"a candidate that is not there", func(e *api.Entry) { e.Batch = batch(gone(prefixOf(4, 9, 10), 4)) }, api.ErrNone},
					{"a wrong Client goes ahead of a wrong batch", func(e *api.Entry) { e.Client, e.Batch = 3, api.Batch{} }, api.ErrEntry},
					{"a wrong Epoch goes ahead of a wrong batch", func(e *api.Entry) { e.Epoch, e.Batch = 0, api.Batch{} }, api.ErrEntry},
					{"a wrong Seq goes ahead of a wrong batch", func(e *api.Entry) { e.Seq, e.Batch = 0, batch(gone(nth(9), 4)) }, api.ErrEntry},
				} {
					l := copied(right)
					q.change(&l[k])
					stays(t, q.name, j, d, q.err, func() api.Errno { return j.Put(index, l) })
					// What is wrong behind it does not go ahead of it.
					if k < 2 {
						l[2].Client = 9
						l[2].Batch = api.Batch{}
						stays(t, q.name+", and a wrong one behind", j, d, q.err, func() api.Errno { return j.Put(index, l) })
					}
				}
			}
		}
	})
}

func TestPutOfEpochsThatFall(t *testing.T) {
	journals(t, func(j *rib.Journal, d *disk.Disk, h has) {
		states := h.states()
		for i, s := range states {
			index := s.At.Index + 1
			for epoch := uint64(0); epoch < 7; epoch++ {
				err := api.ErrEntry
				if epoch >= max(1, s.At.Epoch) && epoch <= 5 {
					err = api.OK
				}
				l := []api.Entry{entry(epoch, 1, 60, put(pfx(), 1, 0, 77))}
				if err != api.OK {
					stays(t, "an Epoch", j, d, err, func() api.Errno { return j.Put(index, l) })
					continue
				}
				is(t, "an Epoch", j.Put(index, l), err)
				tells(t, "an Epoch", j, h.with(index, l...))
				for after := uint64(0); after < epoch; after++ {
					stays(t, "an Epoch that falls", j, d, api.ErrEntry, func() api.Errno {
						return j.Put(index, append(copied(l), entry(after, 2, 60, put(pfx(), 1, 0, 78))))
					})
				}
			}
			does(t, "as it was", j.Put(index, h.entries[i:]))
		}
	})
}

func TestPutOfSeqsThatDoNotRise(t *testing.T) {
	journals(t, func(j *rib.Journal, d *disk.Disk, h has) {
		for i, s := range h.states() {
			for client := 1; client <= 2; client++ {
				was := s.Last[client].Seq
				for _, seq := range []uint32{0, 1, was / 2, was - 1, was, was + 1, was + 2, 1 << 31, math.MaxUint32} {
					l := []api.Entry{entry(5, client, seq, put(pfx(), 1, 0, 77))}
					index := s.At.Index + 1
					if seq <= was {
						stays(t, "a Seq", j, d, api.ErrEntry, func() api.Errno { return j.Put(index, l) })
						continue
					}
					is(t, "a Seq", j.Put(index, l), api.OK)
					tells(t, "a Seq", j, h.with(index, l...))
					twice := append(copied(l), entry(5, client, seq, put(pfx(), 1, 0, 78)))
					stays(t, "a Seq twice", j, d, api.ErrEntry, func() api.Errno { return j.Put(index, twice) })
					does(t, "as it was", j.Put(index, h.entries[i:]))
				}
			}
		}
	})
}

func TestPutOfTooManyPrefixes(t *testing.T) {
	j, d := formatted(t, 300)
	h := has{vow: 5, base: base(at(1, 1), last(1, 1), last(0, 0), wide(39, 4)...)}
	does(t, "a base", j.Vow(5), j.Take(h.base))
	one, other := entry(2, 1, 2, put(nth(40), 1, 0, 1)), entry(2, 2, 2, put(nth(41), 1, 0, 1))
	stays(t, "41 prefixes", j, d, api.ErrFull, func() api.Errno { return j.Put(2, []api.Entry{one, other}) })
	is(t, "40 prefixes", j.Put(2, []api.Entry{one}), api.OK)
	stays(t, "41 prefixes", j, d, api.ErrFull, func() api.Errno { return j.Put(3, []api.Entry{other}) })
	is(t, "another one in its stead", j.Put(2, []api.Entry{other}), api.OK)
	lasts(t, "another one in its stead", d, h.with(2, other))
}

// P12.2: how a change is written

func TestWriteWhereThereIsNoRoom(t *testing.T) {
	// Of 52 bytes the snapshot takes two of the sectors, each vow one more.
	j, d := formatted(t, 5)
	log := logOf(t, d)
	for epoch := uint64(1); epoch < 30; epoch++ {
		is(t, "Vow", j.Vow(epoch), api.OK)
		if len(log.rest) < 3 {
			log = log.with(rawVow(epoch))
		} else {
			log = log.anew(rawSnapshot(epoch, api.Base{}))
		}
		lies(t, "Vow", d, log)
		tells(t, "Vow", j, has{vow: epoch})
		lasts(t, "Vow", d, has{vow: epoch})
	}
}

func TestWriteWhereThereIsJustRoom(t *testing.T) {
	// A Put of one entry takes one sector up to 48 bytes, and two above.
	small, great := entry(1, 1, 1, put(pfx(), 1, 0, 1)), entry(1, 1, 1, put(pfx(), 1, 0, 1), put(nth(1), 1, 0, 1), put(nth(2), 1, 0, 1))
	if len(rawPut(1, small)) > 48 || len(rawPut(1, great)) <= 48 || len(rawPut(1, great)) > 96 {
		t.Fatal("other lengths")
	}
	for _, e := range []api.Entry{small, great} {
		for left := range 4 {
			j, d := formatted(t, 8)
			epoch := uint64(6 - left)
			for i := range epoch {
				does(t, "Vow", j.Vow(i+1))
			}
			log, h := logOf(t, d), has{vow: epoch}.with(1, e)
			is(t, "Put", j.Put(1, []api.Entry{e}), api.OK)
			if (len(rawPut(1, e))+47)/48 <= left {
				log = log.with(rawPut(1, e))
			} else {
				log = log.anew(rawSnapshot(epoch, api.Base{}, e))
			}
			lies(t, "Put", d, log)
			tells(t, "Put", j, h)
			lasts(t, "Put", d, h)
		}
	}
}

func TestWriteWhereThereIsNoRoomAtAll(t *testing.T) {
	j, d := formatted(t, 4)
	does(t, "Vow", j.Vow(2))
	h := has{vow: 2}
	log := logOf(t, d)
	is(t, "Put", j.Put(1, bigs(1, 1, 3)), api.ErrFull)
	isDown(t, "Put", j, d, h)
	lies(t, "Put", d, log)
	lasts(t, "Put", d, h)

	// 20 candidates of 7 bytes fill the four sectors to their last byte.
	full := base(at(3, 1), last(1, 2), last(0, 0), wide(20, 1)...)
	other := d.Copy()
	is(t, "Take", opened(t, other).Take(full), api.OK)
	lasts(t, "Take", other, has{vow: 2, base: full})
	j = opened(t, d)
	is(t, "Take", j.Take(base(at(3, 1), last(1, 2), last(0, 0), wide(21, 1)...)), api.ErrFull)
	isDown(t, "Take", j, d, h)
	lies(t, "Take", d, log)
	lasts(t, "Take", d, h)

	// What is put would fit an area by itself, but not together with what there is.
	j, d = formatted(t, 8)
	does(t, "Put", j.Vow(2), j.Put(1, bigs(1, 1, 1)))
	h = has{vow: 2}.with(1, bigs(1, 1, 1)...)
	other = d.Copy()
	is(t, "Put", opened(t, other).Put(1, bigs(2, 2, 4)), api.OK)
	lasts(t, "Put", other, has{vow: 2}.with(1, bigs(2, 2, 4)...))
	is(t, "Put", j.Put(2, bigs(2, 2, 4)), api.ErrFull)
	isDown(t, "Put", j, d, h)
	lasts(t, "Put", d, h)
}

// isDown fails a test, if a journal is not down, or tells anything but what it had, or is asked for anything yet.
func isDown(t *testing.T, what string, j *rib.Journal, d *disk.Disk, h has) {
	t.Helper()
	if !j.Down() {
		t.Fatalf("%s: it is not down", what)
	}
	tells(t, what+", down", j, h)
	first, next := h.base.At.Index, h.base.At.Index+uint64(len(h.entries))+1
	for _, call := range []func() api.Errno{
		func() api.Errno { return j.Vow(h.vow) },
		func() api.Errno { return j.Vow(h.vow + 1) },
		func() api.Errno { return j.Vow(math.MaxUint64) },
		func() api.Errno { return j.Put(next, nil) },
		func() api.Errno { return j.Put(0, nil) },
		func() api.Errno { return j.Put(next, make([]api.Entry, 50)) },
		func() api.Errno { return j.Rest(first) },
		func() api.Errno { return j.Rest(next) },
		func() api.Errno { return j.Take(h.base) },
		func() api.Errno { return j.Take(api.Base{At: at(1, 0)}) },
	} {
		stays(t, what+", down", j, d, api.ErrIo, call)
	}
}

// P12.3

func TestRest(t *testing.T) {
	for i := range 11 {
		j, d := formatted(t, 300)
		does(t, "a journal", j.Vow(5), j.Put(1, bigs(4, 1, 10)))
		h, log := of(j), logOf(t, d)
		if i == 0 {
			stays(t, "Rest of the base", j, d, api.OK, func() api.Errno { return j.Rest(0) })
			continue
		}
		is(t, "Rest", j.Rest(uint64(i)), api.OK)
		next := has{5, h.states()[i], h.entries[i:]}
		tells(t, "Rest", j, next)
		lies(t, "Rest", d, log.anew(rawSnapshot(5, next.base, next.entries...)))
		lasts(t, "Rest", d, next)
		stays(t, "Rest of the base", j, d, api.OK, func() api.Errno { return j.Rest(uint64(i)) })
		if i < 10 {
			is(t, "Rest", j.Rest(10), api.OK)
			tells(t, "Rest", j, has{5, h.states()[10], nil})
		}
		is(t, "Put", j.Put(11, row(5, 50, 2)), api.OK)
		lasts(t, "Put behind a Rest", d, has{5, h.states()[10], row(5, 50, 2)})
	}
}

func TestRestWhereThereIsNoPlace(t *testing.T) {
	journals(t, func(j *rib.Journal, d *disk.Disk, h has) {
		first := h.base.At.Index
		end := first + uint64(len(h.entries))
		for _, index := range []uint64{first - 1, first - 2, end + 1, end + 2, end + 256, end + 1<<32, first + 1<<63, math.MaxUint64} {
			stays(t, "no place", j, d, api.ErrArg, func() api.Errno { return j.Rest(index) })
		}
		stays(t, "the base", j, d, api.OK, func() api.Errno { return j.Rest(first) })
	})
}

// rightBases are bases that may be of the vow 5.
func rightBases() []api.Base {
	no := last(0, 0)
	return []api.Base{
		{},
		{Rib: api.Rib{Routes: []api.Route{}}},
		base(at(1, 1), no, no), base(at(1, 5), no, no), base(at(1, 5), last(1, 1), no), base(at(1, 5), no, last(1, 1)),
		base(at(2, 1), last(1, 1), last(1, 2)), base(at(2, 1), last(9, 2), last(1, 1)), base(at(9, 5), last(math.MaxUint32, 1), last(math.MaxUint32, 9)),
		base(at(9, 3), no, last(7, 4), cand(pfx(), 1, 0, 1)), base(at(1, 1), no, no, cand(pfx(), 4, 255, 255), cand(nth(0), 1, 0, 1)),
		base(at(1000, 4), last(1, 999), last(3, 1000), wide(40, 1)...), base(at(1000, 4), last(1, 1000), last(3, 999), wide(40, 4)...),
		base(at(api.MaxEpoch, 5), last(1, api.MaxEpoch), last(1, api.MaxEpoch-1)), base(at(api.MaxEpoch-1, 1), no, no, wide(3, 2)...),
	}
}

// wrongBases are such as may not be of the vow 5, each wrong in one thing.
func wrongBases() []api.Base {
	no := last(0, 0)
	l := []api.Base{
		base(at(0, 1), no, no), base(at(1, 0), no, no), base(at(7, 0), no, no), base(at(0, 5), no, no),
		base(at(1, 6), no, no), base(at(1, 1<<32+5), no, no), base(at(1, api.MaxEpoch), no, no), base(at(1, api.MaxEpoch+1), no, no), base(at(1, math.MaxUint64), no, no),
		base(at(api.MaxEpoch+1, 5), no, no), base(at(1<<63, 5), no, no), base(at(math.MaxUint64, 5), no, no),
		base(at(0, 0), no, no, cand(pfx(), 1, 0, 1)), base(at(0, 0), last(1, 1), no), base(at(0, 0), no, last(1, 1)), base(at(0, 0), last(1, 0), no), base(at(0, 0), no, last(1, 0)),
		base(at(3, 1), last(1, 0), no), base(at(3, 1), no, last(1, 0)), base(at(3, 1), last(0, 1), no), base(at(3, 1), no, last(0, 1)),
		base(at(3, 1), last(1, 4), no), base(at(3, 1), no, last(1, 4)), base(at(3, 1), last(1, 3+1<<32), no), base(at(3, 1), no, last(1, math.MaxUint64)),
		base(at(3, 1), last(1, 1), last(1, 1)), base(at(3, 1), last(1, 3), last(2, 3)), base(at(3, 1), last(2, 2), last(1, 2)),
		base(at(3, 1), no, no, wide(41, 1)...), base(at(3, 1), no, no, cand(pfx(), 1, 0, 0)), base(at(3, 1), no, no, cand(pfx(), 0, 0, 1)), base(at(3, 1), no, no, cand(prefixOf(5, 0), 1, 0, 1)),
		base(at(3, 1), no, no, cand(nth(0), 1, 0, 1), cand(pfx(), 1, 0, 1)), base(at(3, 1), no, no, cand(pfx(), 1, 0, 1), cand(pfx(), 1, 0, 1)),
	}
	for _, x := range []api.Last{last(1, 1), last(1, 0), last(0, 1)} {
		l = append(l, api.Base{At: at(3, 1), Last: [3]api.Last{x, last(1, 2), {}}})
	}
	return l
}

func TestTake(t *testing.T) {
	for _, b := range rightBases() {
		journals(t, func(j *rib.Journal, d *disk.Disk, h has) {
			log := logOf(t, d)
			is(t, "Take", j.Take(b), api.OK)
			tells(t, "Take", j, has{vow: 5, base: b})
			log = log.anew(rawSnapshot(5, b))
			lies(t, "Take", d, log)
			lasts(t, "Take", d, has{vow: 5, base: b})
			is(t, "Take once more", j.Take(b), api.OK)
			lies(t, "Take once more", d, log.anew(rawSnapshot(5, b)))
			if b.At.Index < api.MaxEpoch {
				e := entry(5, 1, b.Last[1].Seq+1, put(nth(1), 1, 0, 1))
				if b.Last[1].Seq < math.MaxUint32 {
					is(t, "Put behind it", j.Put(b.At.Index+1, []api.Entry{e}), api.OK)
					lasts(t, "Put behind it", d, has{vow: 5, base: b}.with(b.At.Index+1, e))
				}
			}
		})
	}
}

func TestTakeOfWrongBases(t *testing.T) {
	journals(t, func(j *rib.Journal, d *disk.Disk, h has) {
		for _, b := range wrongBases() {
			stays(t, "a wrong base", j, d, api.ErrArg, func() api.Errno { return j.Take(b) })
		}
	})
	j, d := formatted(t, 20)
	stays(t, "a base without a vow", j, d, api.ErrArg, func() api.Errno { return j.Take(base(at(1, 1), last(0, 0), last(0, 0))) })
	is(t, "no base without a vow", j.Take(api.Base{}), api.OK)
}

// P12.4

func TestTold(t *testing.T) {
	journals(t, func(j *rib.Journal, d *disk.Disk, h has) {
		ops := d.Ops()
		tells(t, "told", j, h)
		if d.Ops() != ops || j.Down() {
			t.Error("telling asks the disk for something, or the journal is down")
		}
		for i, s := range h.states() {
			nowhere(t, "told", j, s.At.Index+1<<32, s.At.Index+1<<62, s.At.Index-uint64(i)-256)
		}
	})
}

func TestNil(t *testing.T) {
	var j *rib.Journal
	is(t, "Vow", j.Vow(0), api.ErrNil)
	is(t, "Vow", j.Vow(math.MaxUint64), api.ErrNil)
	is(t, "Put", j.Put(1, nil), api.ErrNil)
	is(t, "Put", j.Put(0, make([]api.Entry, 50)), api.ErrNil)
	is(t, "Rest", j.Rest(0), api.ErrNil)
	is(t, "Rest", j.Rest(1), api.ErrNil)
	is(t, "Take", j.Take(api.Base{}), api.ErrNil)
	is(t, "Take", j.Take(api.Base{At: at(1, 0)}), api.ErrNil)
	if got := of(j); !got.same(has{}) {
		t.Errorf("told of nil: %v", got)
	}
	if j.Last() != (api.At{}) || !j.Down() {
		t.Errorf("told of nil: Last %v, Down %v", j.Last(), j.Down())
	}
	nowhere(t, "nil", j, 0, 1, 2, math.MaxUint64)
}

// R3

func TestWhatIsHandedInIsNotKept(t *testing.T) {
	j, d := formatted(t, 100)
	does(t, "Vow", j.Vow(5))
	b := base(at(3, 1), last(1, 1), last(0, 0), wide(2, 2)...)
	want := base(at(3, 1), last(1, 1), last(0, 0), wide(2, 2)...)
	does(t, "Take", j.Take(b))
	b.Rib.Routes[0].Hop = 99
	tells(t, "Take", j, has{vow: 5, base: want})
	room := append(bigs(2, 2, 3), entry(9, 9, 9))
	l := room[:2]
	does(t, "Put", j.Put(4, l))
	if !sameEntries(room, append(bigs(2, 2, 3), entry(9, 9, 9))) {
		t.Error("what was handed in is another one")
	}
	l[0].Epoch, l[1].Seq, l[1].Batch.Updates[7].Hop = 4, 77, 99
	tells(t, "Put", j, has{vow: 5, base: want}.with(4, bigs(2, 2, 2)...))
	lasts(t, "Put", d, has{vow: 5, base: want}.with(4, bigs(2, 2, 2)...))
}

func TestWhatIsToldIsNewMemory(t *testing.T) {
	journals(t, func(j *rib.Journal, d *disk.Disk, h has) {
		spoil := func() {
			for i := range j.Base().Rib.Routes {
				j.Base().Rib.Routes[i] = api.Route{}
			}
			l := j.Entries()
			for i := range l {
				l[i].Batch.Updates[0] = api.Update{}
				l[i] = api.Entry{}
			}
			l = j.Entries()
			for i := range l {
				l[i].Batch.Updates[0] = api.Update{}
			}
			for i := range uint64(5) {
				s, _ := j.State(h.base.At.Index + i)
				for k := range s.Rib.Routes {
					s.Rib.Routes[k] = api.Route{}
				}
			}
		}
		spoil()
		tells(t, "what is told is kept", j, h)
		lasts(t, "what is told is kept", d, h)
		end := h.base.At.Index + uint64(len(h.entries))
		does(t, "Rest", j.Rest(end))
		h = has{5, h.states()[len(h.entries)], nil}
		spoil()
		tells(t, "what is told behind a Rest is kept", j, h)
	})
}
