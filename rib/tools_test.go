package rib_test

import (
	"bytes"
	"fmt"
	"hash/crc32"
	"slices"
	"testing"

	"junctionbox/api"
	"junctionbox/disk"
	"junctionbox/rib"
	"junctionbox/wal"
)

// prefixOf is a prefix of so many bits; bytes of the address that are not told are noughts.
func prefixOf(version, bits int, b ...byte) api.Prefix {
	p := api.Prefix{Addr: api.Addr{Version: version}, Bits: bits}
	copy(p.Addr.Bytes[:], b)
	return p
}

// pfx is 10.0.0.0/8; nth is the n-th of a row of prefixes that rise behind it.
func pfx() api.Prefix {
	return prefixOf(4, 8, 10)
}

func nth(n int) api.Prefix {
	return prefixOf(6, 16, 0x20, byte(n))
}

// put is an update that tells a candidate, gone one that withdraws it.
func put(p api.Prefix, source, pref, hop int) api.Update {
	return api.Update{Prefix: p, Source: source, Pref: pref, Hop: hop}
}

func gone(p api.Prefix, source int) api.Update {
	return api.Update{Prefix: p, Source: source, Gone: true}
}

func cand(p api.Prefix, source, pref, hop int) api.Route {
	return api.Route{Prefix: p, Source: source, Pref: pref, Hop: hop}
}

func batch(l ...api.Update) api.Batch {
	return api.Batch{Updates: l}
}

func ribOf(l ...api.Route) api.Rib {
	return api.Rib{Routes: l}
}

func entry(epoch uint64, client int, seq uint32, l ...api.Update) api.Entry {
	return api.Entry{Epoch: epoch, Client: client, Seq: seq, Batch: batch(l...)}
}

// row is so many entries of an epoch, by client 1, of Seqs from the first on; each tells the candidate of p again, with another Hop.
func row(epoch uint64, first uint32, count int) []api.Entry {
	var l []api.Entry
	for i := range count {
		l = append(l, entry(epoch, 1, first+uint32(i), put(pfx(), 1, 5, 1+int(first)+i)))
	}
	return l
}

// wide is candidates of so many prefixes, each by so many sources.
func wide(prefixes, sources int) []api.Route {
	var l []api.Route
	for i := range prefixes {
		for source := 1; source <= sources; source++ {
			l = append(l, cand(nth(i), source, 7*i%256, 1+(3*i+source)%255))
		}
	}
	return l
}

// bigs is so many entries, of eight updates each, of all four sources: they fill all prefixes but one by and by.
func bigs(epoch uint64, first uint32, count int) []api.Entry {
	var l []api.Entry
	for i := range count {
		var b []api.Update
		for k := range 8 {
			b = append(b, put(nth((8*i+k)%39), 1+i%4, i, 1+k))
		}
		l = append(l, entry(epoch, 1+i%2, first+uint32(i), b...))
	}
	return l
}

// at is a place, last a client's last entry, base a base of what is handed in.
func at(index, epoch uint64) api.At {
	return api.At{Index: index, Epoch: epoch}
}

func last(seq uint32, index uint64) api.Last {
	return api.Last{Seq: seq, Index: index}
}

func base(at api.At, one, two api.Last, l ...api.Route) api.Base {
	return api.Base{At: at, Rib: ribOf(l...), Last: [3]api.Last{{}, one, two}}
}

// highest lays a number of so many bytes, the highest byte first.
func highest(x uint64, width int) []byte {
	b := make([]byte, width)
	for i := range b {
		b[width-1-i] = byte(x >> (8 * i))
	}
	return b
}

// rawPrefix, rawBatch and rawRib are bytes of whatever stands there, as the chapter 11 lays them.
func rawPrefix(p api.Prefix) []byte {
	return append([]byte{byte(p.Addr.Version), byte(p.Bits)}, p.Addr.Bytes[:(p.Bits+7)/8]...)
}

func rawBatch(b api.Batch) []byte {
	out := []byte{byte(len(b.Updates))}
	for _, u := range b.Updates {
		out = append(out, rawPrefix(u.Prefix)...)
		out = append(out, byte(u.Source), map[bool]byte{true: 1}[u.Gone], byte(u.Pref), byte(u.Hop))
	}
	return out
}

func rawRib(r api.Rib) []byte {
	out := []byte{byte(len(r.Routes))}
	for _, x := range r.Routes {
		out = append(out, rawPrefix(x.Prefix)...)
		out = append(out, byte(x.Source), byte(x.Pref), byte(x.Hop))
	}
	return out
}

// rawSized is how many bytes there are, and these.
func rawSized(b []byte) []byte {
	return slices.Concat(highest(uint64(len(b)), 2), b)
}

// rawEntries is how many entries there are, and these.
func rawEntries(l []api.Entry) []byte {
	out := []byte{byte(len(l))}
	for _, e := range l {
		out = slices.Concat(out, highest(e.Epoch, 8), []byte{byte(e.Client)}, highest(uint64(e.Seq), 4), rawSized(rawBatch(e.Batch)))
	}
	return out
}

// rawSnapshot, rawVow and rawPut are what stands in the log, laid by hand.
func rawSnapshot(vow uint64, b api.Base, l ...api.Entry) []byte {
	out := slices.Concat(highest(vow, 8), highest(b.At.Index, 8), highest(b.At.Epoch, 8))
	for _, x := range b.Last[1:] {
		out = slices.Concat(out, highest(uint64(x.Seq), 4), highest(x.Index, 8))
	}
	return slices.Concat(out, rawSized(rawRib(b.Rib)), rawEntries(l))
}

func rawVow(epoch uint64) []byte {
	return append([]byte{1}, highest(epoch, 8)...)
}

func rawPut(index uint64, l ...api.Entry) []byte {
	return slices.Concat([]byte{2}, highest(index, 8), rawEntries(l))
}

// is fails a test, if an error is another one.
func is(t *testing.T, what string, err, want api.Errno) {
	t.Helper()
	if err != want {
		t.Errorf("%s: %d, not %d", what, err, want)
	}
}

// does fails a test at once, if something is refused.
func does(t *testing.T, what string, errs ...api.Errno) {
	t.Helper()
	for i, err := range errs {
		if err != api.OK {
			t.Fatalf("%s: %d at %d", what, err, i)
		}
	}
}

// made is a disk that has just sectors enough for areas of that size.
func made(t *testing.T, area int) *disk.Disk {
	t.Helper()
	d, err := disk.New(2 + 2*area)
	does(t, "disk.New", err)
	return d
}

// formatted is a new journal, and its disk.
func formatted(t *testing.T, area int) (*rib.Journal, *disk.Disk) {
	t.Helper()
	d := made(t, area)
	j, err := rib.Format(d, area)
	if j == nil || err != api.OK {
		t.Fatalf("Format(%d): %v, %d", area, j, err)
	}
	return j, d
}

// opened is the journal that a disk holds.
func opened(t *testing.T, d *disk.Disk) *rib.Journal {
	t.Helper()
	j, err := rib.Open(d)
	if j == nil || err != api.OK {
		t.Fatalf("Open: %v, %d", j, err)
	}
	return j
}

// forged is a disk with a log of that snapshot and these transactions.
func forged(t *testing.T, area int, snapshot []byte, transactions ...[]byte) *disk.Disk {
	t.Helper()
	d := made(t, area)
	w, err := wal.Format(d, area)
	does(t, "wal.Format", err)
	does(t, "Checkpoint", w.Checkpoint(snapshot))
	for _, b := range transactions {
		does(t, "Append", w.Append(b))
	}
	return d
}

// refused fails a test, if that is taken for a journal, or refused otherwise.
func refused(t *testing.T, what string, d *disk.Disk, want api.Errno) {
	t.Helper()
	if j, err := rib.Open(d); j != nil || err != want {
		t.Errorf("%s: Open: %v, %d, not %d", what, j != nil, err, want)
	}
}

// has is what a journal is to have: what is told of it is read off here once more, by the chapter's words.
type has struct {
	vow     uint64
	base    api.Base
	entries []api.Entry
}

// with is it with entries from an index on; such as may stand there.
func (h has) with(index uint64, l ...api.Entry) has {
	h.entries = slices.Concat(h.entries[:index-h.base.At.Index-1], l)
	return h
}

// states is the state of each place, from the base on; each source has one candidate of a prefix at most, and what is told of it last counts.
func (h has) states() []api.Base {
	s := h.base
	l := []api.Base{s}
	for i, e := range h.entries {
		s.At = at(h.base.At.Index+uint64(i)+1, e.Epoch)
		s.Last[e.Client] = last(e.Seq, s.At.Index)
		for _, u := range e.Batch.Updates {
			s.Rib = told(s.Rib, u)
		}
		l = append(l, s)
	}
	return l
}

// told is a RIB behind an update, that may be done.
func told(r api.Rib, u api.Update) api.Rib {
	key := func(p api.Prefix, source int) []byte {
		return slices.Concat([]byte{byte(p.Addr.Version)}, p.Addr.Bytes[:], []byte{byte(p.Bits), byte(source)})
	}
	mine := key(u.Prefix, u.Source)
	var out api.Rib
	rest := r.Routes
	for len(rest) > 0 && bytes.Compare(key(rest[0].Prefix, rest[0].Source), mine) < 0 {
		out.Routes, rest = append(out.Routes, rest[0]), rest[1:]
	}
	if len(rest) > 0 && bytes.Equal(key(rest[0].Prefix, rest[0].Source), mine) {
		rest = rest[1:]
	}
	if !u.Gone {
		out.Routes = append(out.Routes, cand(u.Prefix, u.Source, u.Pref, u.Hop))
	}
	out.Routes = append(out.Routes, rest...)
	return out
}

// sameBase and sameEntries: whether both are the same, nil and empty lists being one.
func sameBase(a, b api.Base) bool {
	return a.At == b.At && a.Last == b.Last && slices.Equal(a.Rib.Routes, b.Rib.Routes)
}

func sameEntries(a, b []api.Entry) bool {
	return slices.EqualFunc(a, b, func(x, y api.Entry) bool {
		return x.Epoch == y.Epoch && x.Client == y.Client && x.Seq == y.Seq && slices.Equal(x.Batch.Updates, y.Batch.Updates)
	})
}

func (h has) same(o has) bool {
	return h.vow == o.vow && sameBase(h.base, o.base) && sameEntries(h.entries, o.entries)
}

// of is what a journal tells that it has.
func of(j *rib.Journal) has {
	return has{j.Epoch(), j.Base(), j.Entries()}
}

// text is it in short: what lists it has is told by their lengths, and by sums of their bytes.
func (h has) text() string {
	return fmt.Sprint("vow ", h.vow, ", base ", h.base.At, h.base.Last, ", candidates ", short(rawRib(h.base.Rib)), ", entries ", short(rawEntries(h.entries)))
}

func short(b []byte) string {
	return fmt.Sprintf("%d: %x", b[0], crc32.ChecksumIEEE(b))
}

// tells fails a test, if a journal does not tell by all its calls that it has just this.
func tells(t *testing.T, what string, j *rib.Journal, h has) {
	t.Helper()
	if got := of(j); !got.same(h) {
		t.Fatalf("%s: it has %s; not %s", what, got.text(), h.text())
	}
	first := h.base.At.Index
	states := h.states()
	for i, s := range states {
		if place, ok := j.At(first + uint64(i)); place != s.At || !ok {
			t.Errorf("%s: At(%d): %v, %v, not %v", what, first+uint64(i), place, ok, s.At)
		}
		if got, ok := j.State(first + uint64(i)); !sameBase(got, s) || !ok {
			t.Errorf("%s: State(%d): %v, %s, not %s", what, first+uint64(i), ok, has{base: got}.text(), has{base: s}.text())
		}
	}
	if got := j.Last(); got != states[len(states)-1].At {
		t.Errorf("%s: Last: %v, not %v", what, got, states[len(states)-1].At)
	}
	nowhere(t, what, j, first-1, first-2, first+uint64(len(states)), first+uint64(len(states))+1, first+1<<32, first+1<<63)
}

// nowhere fails a test, if one of these indexes has a place.
func nowhere(t *testing.T, what string, j *rib.Journal, l ...uint64) {
	t.Helper()
	for _, index := range l {
		if place, ok := j.At(index); place != (api.At{}) || ok {
			t.Errorf("%s: At(%d): %v, %v", what, index, place, ok)
		}
		if s, ok := j.State(index); !sameBase(s, api.Base{}) || ok {
			t.Errorf("%s: State(%d): %v, %v", what, index, s, ok)
		}
	}
}

// logged is what a log has, read by another one on a copy of the disk.
type logged struct {
	turn     uint32
	snapshot []byte
	rest     [][]byte
}

func logOf(t *testing.T, d *disk.Disk) logged {
	t.Helper()
	w, err := wal.Open(d.Copy())
	does(t, "wal.Open", err)
	l := logged{turn: w.Turn(), snapshot: w.Snapshot()}
	for _, b := range w.All() {
		l.rest = append(l.rest, b)
	}
	return l
}

// with is it with one more transaction, anew with a snapshot alone.
func (l logged) with(b []byte) logged {
	l.rest = append(slices.Clone(l.rest), b)
	return l
}

func (l logged) anew(b []byte) logged {
	return logged{turn: l.turn + 1, snapshot: b}
}

// lies fails a test, if a disk holds another log.
func lies(t *testing.T, what string, d *disk.Disk, want logged) {
	t.Helper()
	got := logOf(t, d)
	if got.turn != want.turn || !bytes.Equal(got.snapshot, want.snapshot) || !slices.EqualFunc(got.rest, want.rest, bytes.Equal) {
		t.Errorf("%s: the log has the turn %d, % x, % x; not the turn %d, % x, % x", what, got.turn, got.snapshot, got.rest, want.turn, want.snapshot, want.rest)
	}
}

// stays fails a test, if a call does not answer that error, or changes something, or asks anything of the disk.
func stays(t *testing.T, what string, j *rib.Journal, d *disk.Disk, want api.Errno, do func() api.Errno) {
	t.Helper()
	was, ops, rows, down := of(j), d.Ops(), d.Pending(), j.Down()
	is(t, what, do(), want)
	if d.Ops() != ops || !slices.Equal(d.Pending(), rows) {
		t.Errorf("%s has asked the disk for something", what)
	}
	if j.Down() != down {
		t.Errorf("%s: down %v", what, j.Down())
	}
	tells(t, what, j, was)
}

// lasts fails a test, if that is not told by who opens the disk, also behind a crash that loses all that can be lost.
func lasts(t *testing.T, what string, d *disk.Disk, h has) {
	t.Helper()
	tells(t, what+", opened", opened(t, d.Copy()), h)
	c := d.Copy()
	does(t, "Crash", c.Crash(nil))
	tells(t, what+", behind a crash", opened(t, c), h)
}

// dice is a row of numbers that is the same each time.
type dice uint64

func (d *dice) roll(n int) int {
	*d = *d*6364136223846793005 + 1442695040888963407
	return int(uint64(*d) >> 33 % uint64(n))
}
