package wal_test

import (
	"bytes"
	"slices"
	"testing"

	"junctionbox/api"
	"junctionbox/disk"
	"junctionbox/wal"
)

// noughts is what a sector holds at first.
var noughts api.Block

// highest lays a number of so many bytes, the highest byte first.
func highest(x uint64, width int) []byte {
	b := make([]byte, width)
	for i := range b {
		b[width-1-i] = byte(x >> (8 * i))
	}
	return b
}

// summed is the sum of bytes, by the chapter 3.
func summed(lists ...[]byte) uint64 {
	sum := uint64(1)
	for _, b := range slices.Concat(lists...) {
		sum = (sum*257 + uint64(b)) % 4294967291
	}
	return sum
}

// labelOf is a label's sector, laid by hand.
func labelOf(area uint32) api.Block {
	ahead := make([]byte, 60)
	copy(ahead, "junction")
	copy(ahead[8:], highest(uint64(area), 4))
	return api.Block(slices.Concat(ahead, highest(summed(ahead), 4)))
}

// sectorOf is a part's sector, laid by hand; rest is what stands from its bytes on.
func sectorOf(turn, number uint32, behind, size int, rest []byte) api.Block {
	head := slices.Concat(highest(uint64(turn), 4), highest(uint64(number), 4), highest(uint64(behind), 2), highest(uint64(size), 2))
	full := make([]byte, 48)
	copy(full, rest)
	return api.Block(slices.Concat(head, highest(summed(head, full), 4), full))
}

// frameOf is a frame's sectors, laid by hand.
func frameOf(turn, number uint32, b []byte) []api.Block {
	count := max(1, (len(b)+47)/48)
	var all []api.Block
	for i := range count {
		piece := b[48*i : min(len(b), 48*i+48)]
		all = append(all, sectorOf(turn, number, count-1-i, len(piece), piece))
	}
	return all
}

// rows puts sectors of frames one behind the other.
func rows(lists ...[]api.Block) []api.Block {
	return slices.Concat(lists...)
}

// text is so many bytes, none of them noughts; those of other seeds are others.
func text(n, seed int) []byte {
	b := make([]byte, n)
	for i := range b {
		b[i] = byte(1 + (i*i/5+i*seed+29*seed)%255)
	}
	return b
}

// state is what a log tells.
type state struct {
	turn     uint32
	snapshot []byte
	rest     [][]byte
	left     int
}

// same says whether two states tell the same.
func (s state) same(o state) bool {
	return s.turn == o.turn && s.left == o.left && bytes.Equal(s.snapshot, o.snapshot) && slices.EqualFunc(s.rest, o.rest, bytes.Equal)
}

// taken is how many sectors so many bytes take.
func taken(n int) int {
	return max(1, (n+47)/48)
}

// begins is the state of a snapshot alone, on an area of so many sectors.
func begins(turn uint32, snapshot []byte, area int) state {
	return state{turn: turn, snapshot: snapshot, left: area - taken(len(snapshot))}
}

// with is a state with more transactions.
func (s state) with(lists ...[]byte) state {
	s.rest = slices.Clone(s.rest)
	for _, b := range lists {
		s.rest = append(s.rest, b)
		s.left -= taken(len(b))
	}
	return s
}

// tells is what a log tells by its calls; that they fit each other is seen to here.
func tells(t *testing.T, w *wal.Wal) state {
	t.Helper()
	s := state{turn: w.Turn(), snapshot: w.Snapshot(), left: w.Left()}
	for n, b := range w.All() {
		s.rest = append(s.rest, b)
		if n != len(s.rest) {
			t.Errorf("the transaction %d has the number %d", len(s.rest), n)
		}
	}
	if w.Len() != len(s.rest) {
		t.Errorf("Len: %d, not %d", w.Len(), len(s.rest))
	}
	return s
}

// stands fails if a log does not tell s.
func stands(t *testing.T, what string, w *wal.Wal, s state) {
	t.Helper()
	if got := tells(t, w); !got.same(s) {
		t.Errorf("%s: turn %d, %d bytes, %d transactions, left %d; not turn %d, %d bytes, %d transactions, left %d", what, got.turn, len(got.snapshot), len(got.rest), got.left, s.turn, len(s.snapshot), len(s.rest), s.left)
	}
}

// want fails if an error is another one.
func want(t *testing.T, what string, got, want api.Errno) {
	t.Helper()
	if got != want {
		t.Errorf("%s: %d, not %d", what, got, want)
	}
}

// made is a disk of so many sectors.
func made(t *testing.T, sectors int) *disk.Disk {
	t.Helper()
	d, err := disk.New(sectors)
	if err != api.OK {
		t.Fatalf("New(%d): %d", sectors, err)
	}
	return d
}

// lay writes blocks from a sector on, and has them go down.
func lay(t *testing.T, d *disk.Disk, first int, blocks ...api.Block) {
	t.Helper()
	for i, b := range blocks {
		want(t, "Write", d.Write(first+i, b), api.OK)
	}
	want(t, "Sync", d.Sync(), api.OK)
}

// formatted is a new log on a new disk that has just sectors enough.
func formatted(t *testing.T, area int) *wal.Wal {
	t.Helper()
	w, err := wal.Format(made(t, 2+2*area), area)
	if err != api.OK || w == nil {
		t.Fatalf("Format(%d): %d", area, err)
	}
	return w
}

// opened is the log that a disk holds.
func opened(t *testing.T, d *disk.Disk) *wal.Wal {
	t.Helper()
	w, err := wal.Open(d)
	if err != api.OK || w == nil {
		t.Fatalf("Open: %d", err)
	}
	if w.Disk() != d || w.Broken() {
		t.Errorf("Open: another disk, or broken: %v", w.Broken())
	}
	return w
}

// refused fails if a disk is opened, or another error is told.
func refused(t *testing.T, what string, d *disk.Disk, err api.Errno) {
	t.Helper()
	if w, e := wal.Open(d); w != nil || e != err {
		t.Errorf("%s: Open: %v, %d; not %d", what, w != nil, e, err)
	}
}

// behind is what all sectors of a disk would show behind a crash: d itself is not asked for an act.
func behind(d *disk.Disk, keep []bool) []api.Block {
	c := d.Copy()
	c.Crash(keep)
	all := make([]api.Block, c.Len())
	for i := range all {
		all[i], _ = c.Read(i)
	}
	return all
}

// keepAll is what loses nothing.
var keepAll = []bool{true, true, true, true, true, true, true, true}

// plate is what a disk's sectors hold for good.
func plate(d *disk.Disk) []api.Block {
	return behind(d, nil)
}

// alike fails if two disks differ in what they show, in what they hold for good, in their rows or in their acts.
func alike(t *testing.T, what string, got, want *disk.Disk) {
	t.Helper()
	switch {
	case !slices.Equal(behind(got, keepAll), behind(want, keepAll)):
		t.Errorf("%s: the disk shows something else", what)
	case !slices.Equal(plate(got), plate(want)):
		t.Errorf("%s: the plate holds something else", what)
	case !slices.Equal(got.Pending(), want.Pending()):
		t.Errorf("%s: rows %v, not %v", what, got.Pending(), want.Pending())
	case got.Ops() != want.Ops():
		t.Errorf("%s: %d acts, not %d", what, got.Ops(), want.Ops())
	}
}

// act is what a log is to ask of its disk.
type act struct {
	kind   string // read, write, sync
	sector int
	block  api.Block
}

// reads, writes and syncs are acts in a row.
func reads(n int) []act {
	var all []act
	for i := range n {
		all = append(all, act{kind: "read", sector: i})
	}
	return all
}

func writes(first int, blocks ...api.Block) []act {
	var all []act
	for i, b := range blocks {
		all = append(all, act{"write", first + i, b})
	}
	return all
}

var syncs = []act{{kind: "sync"}}

// done does acts by hand.
func done(t *testing.T, d *disk.Disk, acts []act) {
	t.Helper()
	for _, a := range acts {
		err := api.OK
		switch a.kind {
		case "read":
			_, err = d.Read(a.sector)
		case "write":
			err = d.Write(a.sector, a.block)
		case "sync":
			err = d.Sync()
		}
		want(t, a.kind, err, api.OK)
	}
}

// start makes a call ready on a disk; what it hands back does it, and answers its error.
type start func(d *disk.Disk) func() api.Errno

// asks fails if a call does not ask for these acts, in this order; if it does not end at the first one that fails, with its error; or if something is asked for behind that.
func asks(t *testing.T, d *disk.Disk, ready start, acts []act) {
	t.Helper()
	began := d.Copy()
	ready(began) // the acts of making ready are not looked at
	hand := began.Copy()
	c := d.Copy()
	want(t, "the call", ready(c)(), api.OK)
	done(t, hand, acts)
	alike(t, "the call", c, hand)
	changes := 0
	for k, a := range acts {
		c, hand = d.Copy(), began.Copy()
		call := ready(c)
		want(t, "Fail", c.Fail(k), api.OK)
		want(t, "the call that fails", call(), api.ErrIo)
		done(t, hand, acts[:k])
		alike(t, "the call that fails", c, hand)
		if a.kind == "read" {
			continue
		}
		c = d.Copy()
		call = ready(c)
		want(t, "Arm", c.Arm(changes), api.OK)
		want(t, "the call without power", call(), api.ErrDead)
		alike(t, "the call without power", c, hand)
		changes++
	}
}

// masks tells all choices of what n rows of a buffer keep.
func masks(n int) [][]bool {
	var all [][]bool
	for m := range 1 << n {
		keep := make([]bool, n)
		for i := range keep {
			keep[i] = m>>i&1 == 1
		}
		all = append(all, keep)
	}
	return all
}

// crashes has the power go at each write and sync of a call, and fails each act of it as well; it tells all disks that may come of these, for each choice of what the buffer keeps.
func crashes(t *testing.T, d *disk.Disk, ready start, check func(c *disk.Disk)) {
	t.Helper()
	ended := false
	for n := 0; !ended; n++ {
		c := d.Copy()
		call := ready(c)
		want(t, "Arm", c.Arm(n), api.OK)
		ended = call() == api.OK
		if ended == c.Dead() {
			t.Fatalf("a fuse of %d: over %v, dead %v", n, ended, c.Dead())
		}
		for _, keep := range masks(len(c.Pending())) {
			e := c.Copy()
			want(t, "Crash", e.Crash(keep), api.OK)
			check(e)
		}
	}
	ended = false
	for n := 0; !ended; n++ {
		c := d.Copy()
		call := ready(c)
		want(t, "Fail", c.Fail(n), api.OK)
		ended = call() == api.OK
		want(t, "Fail of none", c.Fail(-1), api.OK)
		check(c.Copy())
		for _, keep := range masks(len(c.Pending())) {
			e := c.Copy()
			want(t, "Crash", e.Crash(keep), api.OK)
			check(e)
		}
	}
}

// formats, opens, appends and checkpoints make calls ready that may crash.
func formats(area int) start {
	return func(d *disk.Disk) func() api.Errno {
		return func() api.Errno {
			_, err := wal.Format(d, area)
			return err
		}
	}
}

func opens(d *disk.Disk) func() api.Errno {
	return func() api.Errno {
		_, err := wal.Open(d)
		return err
	}
}

func appends(t *testing.T, b []byte) start {
	return func(d *disk.Disk) func() api.Errno {
		w := opened(t, d)
		return func() api.Errno { return w.Append(b) }
	}
}

func checkpoints(t *testing.T, b []byte) start {
	return func(d *disk.Disk) func() api.Errno {
		w := opened(t, d)
		return func() api.Errno { return w.Checkpoint(b) }
	}
}

// lasting fails if a disk's log is none of these states, if it does not stay that through a crash that loses all, or if it is not clean when it is opened again. It answers which one it is.
func lasting(t *testing.T, d *disk.Disk, states ...state) int {
	t.Helper()
	got := tells(t, opened(t, d))
	place := slices.IndexFunc(states, got.same)
	if place < 0 {
		t.Fatalf("Open: turn %d, %d bytes, %d transactions, left %d: none of those that may be", got.turn, len(got.snapshot), len(got.rest), got.left)
	}
	want(t, "Crash", d.Crash(nil), api.OK)
	held, ops := plate(d), d.Ops()
	stands(t, "Open behind a crash", opened(t, d), got)
	if len(d.Pending()) != 0 || !slices.Equal(plate(d), held) {
		t.Error("Open once more has written")
	}
	size := 2 * (got.left + taken(len(got.snapshot)))
	for _, b := range got.rest {
		size += 2 * taken(len(b))
	}
	if n := d.Ops() - ops; n != 2+size+1 {
		t.Errorf("Open once more: %d acts, not %d reads and a sync", n, 2+size)
	}
	return place
}
