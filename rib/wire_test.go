package rib_test

import (
	"math"
	"slices"
	"testing"

	"junctionbox/api"
	"junctionbox/disk"
	"junctionbox/rib"
	"junctionbox/wal"
)

// P12.1: Open

func TestOpenErrors(t *testing.T) {
	refused(t, "nil", nil, api.ErrNil)
	refused(t, "a new disk", made(t, 4), api.ErrWal)
	d := made(t, 4)
	_, err := wal.Format(d, 4)
	does(t, "wal.Format", err)
	refused(t, "a log without a journal", d, api.ErrJournal)

	j, d := formatted(t, 6)
	does(t, "a journal", j.Vow(3), j.Put(1, row(2, 1, 1)))
	h := of(j)
	c := d.Copy()
	does(t, "Open", func() api.Errno { _, err := rib.Open(c); return err }())
	for n := range c.Ops() - d.Ops() {
		c := d.Copy()
		does(t, "Fail", c.Fail(n))
		refused(t, "an act that fails", c, api.ErrIo)
		tells(t, "opened then", opened(t, c), h)
	}
	c = d.Copy()
	does(t, "Arm", c.Arm(0))
	refused(t, "no power", c, api.ErrDead)
	refused(t, "no power any more", c, api.ErrDead)
	does(t, "Crash", c.Crash(nil))
	tells(t, "opened then", opened(t, c), h)
}

func TestOpenAsksForNoMoreThanItsLog(t *testing.T) {
	j, d := formatted(t, 20)
	does(t, "a journal", j.Vow(3), j.Put(1, row(2, 1, 3)), j.Rest(2), j.Vow(4))
	c, e := d.Copy(), d.Copy()
	opened(t, c)
	_, err := wal.Open(e)
	does(t, "wal.Open", err)
	if c.Ops() != e.Ops() || len(c.Pending()) != 0 {
		t.Errorf("%d acts, not %d", c.Ops(), e.Ops())
	}
	if !opened(t, d).Down() && opened(t, d).Vow(9) == api.OK {
		lasts(t, "a vow behind an Open", d, has{9, of(j).base, of(j).entries})
	} else {
		t.Error("what was opened takes no vow")
	}
}

// opens fails a test, if what a log says is not told, or what is no journal's is not refused.
func opens(t *testing.T, what string, d *disk.Disk, h has, ok bool) {
	t.Helper()
	if !ok {
		refused(t, what, d, api.ErrJournal)
		return
	}
	j := opened(t, d)
	tells(t, what, j, h)
	if j.Down() {
		t.Errorf("%s: it is down", what)
	}
}

func TestOpenOfSnapshots(t *testing.T) {
	for _, b := range rightBases() {
		opens(t, "a base", forged(t, 300, rawSnapshot(5, b)), has{vow: 5, base: b}, true)
		if b.At.Index > api.MaxEpoch-2 {
			continue
		}
		l := []api.Entry{entry(5, 1, b.Last[1].Seq+1, put(nth(0), 1, 0, 1)), entry(5, 2, b.Last[2].Seq+1, put(nth(0), 2, 0, 1))}
		if b.Last[1].Seq < math.MaxUint32 {
			opens(t, "a base, and entries", forged(t, 300, rawSnapshot(5, b, l...)), has{5, b, l}, true)
		}
	}
	for _, b := range wrongBases() {
		if b.Last[0] == (api.Last{}) {
			opens(t, "a wrong base", forged(t, 300, rawSnapshot(5, b)), has{}, false)
			opens(t, "a wrong base, and an entry", forged(t, 300, rawSnapshot(5, b, row(5, 9, 1)...)), has{}, false)
		}
	}
	no := api.Base{}
	for _, q := range []struct {
		name string
		b    []byte
		h    has
		ok   bool
	}{
		{"nothing", nil, has{}, false},
		{"a journal to begin with", rawSnapshot(0, no), has{}, true},
		{"the greatest vow", rawSnapshot(api.MaxEpoch, no), has{vow: api.MaxEpoch}, true},
		{"the greatest epochs", rawSnapshot(api.MaxEpoch, base(at(1, api.MaxEpoch), last(0, 0), last(0, 0)), row(api.MaxEpoch, 1, 1)...), has{api.MaxEpoch, base(at(1, api.MaxEpoch), last(0, 0), last(0, 0)), row(api.MaxEpoch, 1, 1)}, true},
		{"a vow above MaxEpoch", rawSnapshot(api.MaxEpoch+1, no), has{}, false},
		{"a vow far above MaxEpoch", rawSnapshot(math.MaxUint64, no), has{}, false},
		{"an epoch above MaxEpoch", rawSnapshot(api.MaxEpoch+1, base(at(1, api.MaxEpoch+1), last(0, 0), last(0, 0))), has{}, false},
		{"40 entries", rawSnapshot(3, no, bigs(2, 1, 40)...), has{3, no, bigs(2, 1, 40)}, true},
		{"41 entries", rawSnapshot(3, no, row(2, 1, 41)...), has{}, false},
		{"255 entries", rawSnapshot(3, no, row(2, 1, 255)...), has{}, false},
		{"an entry at the last index", rawSnapshot(3, base(at(api.MaxEpoch-1, 1), last(0, 0), last(0, 0)), row(2, 1, 1)...), has{3, base(at(api.MaxEpoch-1, 1), last(0, 0), last(0, 0)), row(2, 1, 1)}, true},
		{"an entry behind the last index", rawSnapshot(3, base(at(api.MaxEpoch-1, 1), last(0, 0), last(0, 0)), row(2, 1, 2)...), has{}, false},
		{"an entry behind the last index", rawSnapshot(3, base(at(api.MaxEpoch, 1), last(0, 0), last(0, 0)), row(2, 1, 1)...), has{}, false},
		{"an Epoch below the base's", rawSnapshot(3, base(at(5, 2), last(0, 0), last(0, 0)), row(1, 1, 1)...), has{}, false},
		{"an Epoch above the vow", rawSnapshot(3, base(at(5, 2), last(0, 0), last(0, 0)), row(4, 1, 1)...), has{}, false},
		{"an Epoch 0", rawSnapshot(3, no, row(0, 1, 1)...), has{}, false},
		{"Epochs that fall", rawSnapshot(3, no, append(row(2, 1, 1), row(1, 2, 1)...)...), has{}, false},
		{"a Seq of the base", rawSnapshot(3, base(at(5, 2), last(7, 3), last(0, 0)), row(2, 7, 1)...), has{}, false},
		{"a Seq twice", rawSnapshot(3, no, append(row(2, 1, 2), row(2, 2, 1)...)...), has{}, false},
		{"a Client 0", rawSnapshot(3, no, entry(1, 0, 1, put(pfx(), 1, 0, 1))), has{}, false},
		{"a Client 3", rawSnapshot(3, no, entry(1, 3, 1, put(pfx(), 1, 0, 1))), has{}, false},
		{"what is gone, and was not there", rawSnapshot(3, no, entry(1, 1, 1, gone(pfx(), 1))), has{}, false},
		{"what is gone, and was there", rawSnapshot(3, base(at(5, 2), last(0, 0), last(0, 0), cand(pfx(), 1, 0, 1)), entry(2, 1, 1, gone(pfx(), 1))), has{3, base(at(5, 2), last(0, 0), last(0, 0), cand(pfx(), 1, 0, 1)), []api.Entry{entry(2, 1, 1, gone(pfx(), 1))}}, true},
		{"no updates", rawSnapshot(3, no, entry(1, 1, 1)), has{}, false},
		{"too many prefixes", rawSnapshot(3, base(at(5, 2), last(0, 0), last(0, 0), wide(40, 1)...), row(2, 1, 1)...), has{}, false},
	} {
		opens(t, q.name, forged(t, 300, q.b), q.h, q.ok)
	}
}

// samples are logs with all that may stand in them.
func samples() [][][]byte {
	p := pfx()
	b := base(at(1<<40, 3), last(7, 1<<40), last(1<<20, 9), cand(p, 1, 5, 9), cand(p, 3, 0, 1), cand(nth(2), 2, 255, 255))
	l := []api.Entry{entry(3, 1, 8, gone(p, 3), put(nth(1), 4, 2, 3)), entry(4, 2, 1<<20+1, put(p, 3, 1, 1))}
	next := []api.Entry{entry(4, 2, 1<<20+3, gone(p, 1))}
	return [][][]byte{
		{rawSnapshot(0, api.Base{})},
		{rawSnapshot(258, b)},
		{rawSnapshot(258, b, l...)},
		{rawSnapshot(258, b, l...), rawVow(1 << 50)},
		{rawSnapshot(4, b, l...), rawPut(1<<40+3, next...), rawVow(5), rawPut(1<<40 + 2), rawPut(1<<40+1, l...)},
		{rawSnapshot(4, b, l...), rawPut(1<<40+1, l...), rawPut(1<<40+2, l[1]), rawPut(1<<40 + 3)},
	}
}

// TestOpenOfSpoiltLogs holds what is opened against the chapter's words read once more.
func TestOpenOfSpoiltLogs(t *testing.T) {
	met := map[bool]int{}
	for _, log := range samples() {
		h, ok := read(log[0], log[1:]...)
		if !ok {
			t.Fatalf("a sample that is wrong: % x", log)
		}
		opens(t, "a sample", forged(t, 40, log[0], log[1:]...), h, true)
		for i := range log {
			for _, b := range spoilt(log[i]) {
				other := slices.Clone(log)
				other[i] = b
				h, ok := read(other[0], other[1:]...)
				met[ok]++
				opens(t, "a log that was spoilt", forged(t, 40, other[0], other[1:]...), h, ok)
			}
		}
	}
	if met[true] < 200 || met[false] < 2000 {
		t.Errorf("right and wrong: %v", met)
	}
}

func TestOpenOfTransactions(t *testing.T) {
	h := has{vow: 4, base: base(at(6, 2), last(3, 6), last(0, 0), cand(pfx(), 1, 5, 9)), entries: row(3, 4, 2)}
	wrongKind := func(kind byte) []byte { return append([]byte{kind}, highest(9, 8)...) }
	for _, q := range []struct {
		name string
		l    [][]byte
		h    has
		ok   bool
	}{
		{"none", nil, h, true},
		{"a vow", [][]byte{rawVow(5)}, has{5, h.base, h.entries}, true},
		{"the greatest vow", [][]byte{rawVow(5), rawVow(api.MaxEpoch)}, has{api.MaxEpoch, h.base, h.entries}, true},
		{"a vow above MaxEpoch", [][]byte{rawVow(api.MaxEpoch + 1)}, has{}, false},
		{"a vow far above MaxEpoch", [][]byte{rawVow(math.MaxUint64)}, has{}, false},
		{"the vow", [][]byte{rawVow(4)}, has{}, false},
		{"a vow twice", [][]byte{rawVow(5), rawVow(5)}, has{}, false},
		{"a vow below", [][]byte{rawVow(3)}, has{}, false},
		{"a vow below a later one", [][]byte{rawVow(7), rawVow(6)}, has{}, false},
		{"a vow of nothing", [][]byte{rawVow(0)}, has{}, false},
		{"a vow and a byte", [][]byte{append(rawVow(5), 0)}, has{}, false},
		{"a vow that ends too early", [][]byte{rawVow(5)[:8]}, has{}, false},
		{"no bytes", [][]byte{{}}, has{}, false},
		{"the kind 0", [][]byte{wrongKind(0)}, has{}, false},
		{"the kind 3", [][]byte{wrongKind(3)}, has{}, false},
		{"the kind 255", [][]byte{wrongKind(255)}, has{}, false},
		{"a kind alone", [][]byte{{1}}, has{}, false},
		{"a kind alone", [][]byte{{2}}, has{}, false},
		{"an index alone", [][]byte{rawPut(9)[:9]}, has{}, false},
		{"none behind", [][]byte{rawPut(9)}, h, true},
		{"what is there", [][]byte{rawPut(7, row(3, 4, 2)...)}, h, true},
		{"what is there, of the last one", [][]byte{rawPut(8, row(3, 5, 1)...)}, h, true},
		{"entries behind", [][]byte{rawPut(9, row(4, 6, 2)...)}, h.with(9, row(4, 6, 2)...), true},
		{"entries in their stead", [][]byte{rawPut(8, row(4, 6, 2)...)}, h.with(8, row(4, 6, 2)...), true},
		{"fewer", [][]byte{rawPut(7)}, has{vow: 4, base: h.base}, true},
		{"at the base", [][]byte{rawPut(6)}, has{}, false},
		{"at the index 0", [][]byte{rawPut(0)}, has{}, false},
		{"too far behind", [][]byte{rawPut(10)}, has{}, false},
		{"too far behind by far", [][]byte{rawPut(math.MaxUint64)}, has{}, false},
		{"too far behind what is left", [][]byte{rawPut(7), rawPut(8)}, has{}, false},
		{"an entry and a byte", [][]byte{append(rawPut(9, row(4, 6, 2)...), 0)}, has{}, false},
		{"an Epoch above the vow", [][]byte{rawPut(9, row(5, 6, 2)...)}, has{}, false},
		{"an Epoch of a later vow", [][]byte{rawPut(9, row(5, 6, 2)...), rawVow(5)}, has{}, false},
		{"an Epoch of an earlier vow", [][]byte{rawVow(5), rawPut(9, row(5, 6, 2)...)}, has{5, h.base, h.with(9, row(5, 6, 2)...).entries}, true},
		{"an Epoch below the one ahead", [][]byte{rawPut(9, row(2, 6, 2)...)}, has{}, false},
		{"a Seq below the one ahead", [][]byte{rawPut(9, row(4, 5, 2)...)}, has{}, false},
		{"what is gone, and was not there", [][]byte{rawPut(9, entry(4, 1, 6, gone(pfx(), 2)))}, has{}, false},
		{"forty", [][]byte{rawPut(7, bigs(4, 4, 40)...)}, h.with(7, bigs(4, 4, 40)...), true},
		{"forty of one prefix", [][]byte{rawPut(7, row(4, 4, 40)...)}, h.with(7, row(4, 4, 40)...), true},
		{"more than forty", [][]byte{rawPut(7, row(4, 4, 41)...)}, has{}, false},
		{"more than forty", [][]byte{rawPut(9, row(4, 6, 39)...)}, has{}, false},
		{"the 40 on the way", [][]byte{rawPut(9, row(4, 6, 38)...), rawPut(47), rawPut(46, row(4, 90, 1)...)}, h.with(9, row(4, 6, 37)...).with(46, row(4, 90, 1)...), true},
	} {
		opens(t, q.name, forged(t, 400, rawSnapshot(h.vow, h.base, h.entries...), q.l...), q.h, q.ok)
	}
}

// TestOpenOfPartsOfOtherLengths: what an entry's bytes say of a batch's length has to be just so.
func TestOpenOfPartsOfOtherLengths(t *testing.T) {
	b := rawBatch(batch(put(pfx(), 1, 0, 1)))
	head := slices.Concat(highest(1, 8), []byte{1}, highest(1, 4))
	r := rawRib(ribOf(cand(pfx(), 1, 0, 1)))
	ahead := slices.Concat(highest(3, 8), highest(5, 8), highest(2, 8), make([]byte, 24))
	for _, q := range []struct {
		add []byte
		ok  bool
	}{{nil, true}, {[]byte{0}, false}, {[]byte{0, 0, 0}, false}, {b, false}} {
		transaction := slices.Concat([]byte{2}, highest(1, 8), []byte{1}, head, rawSized(slices.Concat(b, q.add)))
		opens(t, "a longer batch", forged(t, 40, rawSnapshot(3, api.Base{}), transaction), has{vow: 3}.with(1, entry(1, 1, 1, put(pfx(), 1, 0, 1))), q.ok)
		snapshot := slices.Concat(ahead, rawSized(slices.Concat(r, q.add)), []byte{0})
		opens(t, "a longer RIB", forged(t, 40, snapshot), has{vow: 3, base: base(at(5, 2), last(0, 0), last(0, 0), cand(pfx(), 1, 0, 1))}, q.ok)
	}
}
