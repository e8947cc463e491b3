package rib_test

import (
	"math"
	"slices"
	"testing"

	"junctionbox/api"
	"junctionbox/disk"
	"junctionbox/rib"
)

// P12.5

// call is one that changes a journal, and what comes of it.
type call struct {
	name  string
	do    func(j *rib.Journal) api.Errno
	after has
}

// calls are some of each kind, on a journal that has h.
func calls(h has) []call {
	end := h.base.At.Index + uint64(len(h.entries))
	seq := uint32(100)
	more := row(h.vow, seq, 2)
	b := base(at(end+3, 1), last(1, 1), last(0, 0), wide(3, 1)...)
	l := []call{
		{"Vow", func(j *rib.Journal) api.Errno { return j.Vow(h.vow + 3) }, has{h.vow + 3, h.base, h.entries}},
		{"Put", func(j *rib.Journal) api.Errno { return j.Put(end+1, more) }, h.with(end+1, more...)},
		{"Take", func(j *rib.Journal) api.Errno { return j.Take(b) }, has{vow: h.vow, base: b}},
	}
	if len(h.entries) > 0 {
		l = append(l,
			call{"Put in the stead of the last one", func(j *rib.Journal) api.Errno { return j.Put(end, more) }, h.with(end, more...)},
			call{"Put of none", func(j *rib.Journal) api.Errno { return j.Put(h.base.At.Index+1, nil) }, h.with(h.base.At.Index + 1)},
			call{"Rest", func(j *rib.Journal) api.Errno { return j.Rest(end) }, has{h.vow, h.states()[len(h.entries)], nil}},
		)
	}
	return l
}

// choices are all choices of what n rows of a buffer keep.
func choices(n int) [][]bool {
	var all [][]bool
	for m := range 1 << n {
		keep := make([]bool, n)
		for i := range keep {
			keep[i] = m>>i&1 == 1
		}
		all = append(all, keep)
	}
	return all
}

// crashed is a disk behind a crash.
func crashed(t *testing.T, d *disk.Disk, keep []bool) *disk.Disk {
	t.Helper()
	c := d.Copy()
	does(t, "Crash", c.Crash(keep))
	return c
}

// oneOf fails a test, if what is opened is neither of both, or is not the same behind a crash that loses all; it is which one.
func oneOf(t *testing.T, what string, d *disk.Disk, before, after has) int {
	t.Helper()
	got := of(opened(t, d))
	place := slices.IndexFunc([]has{before, after}, got.same)
	if place < 0 {
		t.Fatalf("%s: it has %s; neither %s nor %s", what, got.text(), before.text(), after.text())
	}
	tells(t, what, opened(t, crashed(t, d, nil)), got)
	return place
}

// breaks has the power go at each write and sync of a call, or an act of it fail; it tells what comes of it, and whether the call was refused.
func breaks(t *testing.T, d *disk.Disk, c call, check func(j *rib.Journal, d *disk.Disk, err api.Errno)) {
	t.Helper()
	for _, kind := range []api.Errno{api.ErrDead, api.ErrIo} {
		for n, over := 0, false; !over; n++ {
			e := d.Copy()
			j := opened(t, e)
			if kind == api.ErrDead {
				does(t, "Arm", e.Arm(n))
			} else {
				does(t, "Fail", e.Fail(n))
			}
			err := c.do(j)
			if over = err == api.OK; !over && err != kind {
				t.Fatalf("%s: %d, not %d", c.name, err, kind)
			}
			check(j, e, err)
		}
	}
}

func TestWhatIsToldLasts(t *testing.T) {
	// There is room in the log for any of these changes, for some of them, and for none.
	for _, vows := range []int{0, 6, 8, 9} {
		for _, first := range []uint64{0, 70} {
			j, d := formatted(t, 15)
			does(t, "Vow", j.Vow(5))
			if first > 0 {
				does(t, "Take", j.Take(base(at(first, 3), last(6, 70), last(0, 0), cand(pfx(), 2, 0, 1))))
			}
			if first == 0 || vows%2 == 0 {
				does(t, "Put", j.Put(first+1, row(5, 7, 2)))
			}
			for i := range vows {
				does(t, "Vow", j.Vow(uint64(6+i)))
			}
			throughEachCall(t, d, of(j))
		}
	}
}

func throughEachCall(t *testing.T, d *disk.Disk, before has) {
	t.Helper()
	for _, c := range calls(before) {
		met := [2]int{}
		breaks(t, d, c, func(j *rib.Journal, e *disk.Disk, err api.Errno) {
			if err == api.OK {
				tells(t, c.name, j, c.after)
				lasts(t, c.name, crashed(t, e, nil), c.after)
				met[1]++
				return
			}
			isDown(t, c.name, j, e, before)
			if err == api.ErrIo {
				does(t, "no flaw", e.Fail(-1))
				oneOf(t, c.name+", opened as it stands", e.Copy(), before, c.after)
			}
			for _, keep := range choices(len(e.Pending())) {
				met[oneOf(t, c.name+", behind a crash", crashed(t, e, keep), before, c.after)]++
			}
		})
		if met[0] == 0 || met[1] < 3 {
			t.Errorf("%s: undone %d times, done %d times", c.name, met[0], met[1])
		}
	}
}

func TestFormatThatBreaks(t *testing.T) {
	_, whole := formatted(t, 4)
	met := map[api.Errno]int{}
	for n := range whole.Ops() {
		d := made(t, 4)
		does(t, "Arm", d.Arm(n))
		if _, err := rib.Format(d, 4); err != api.ErrDead {
			t.Fatalf("Format: %d", err)
		}
		for _, keep := range choices(len(d.Pending())) {
			j, err := rib.Open(crashed(t, d, keep))
			if met[err]++; err == api.OK {
				tells(t, "Open", j, has{})
			}
		}
	}
	if met[api.ErrWal] == 0 || met[api.ErrJournal] == 0 || met[api.OK] == 0 || len(met) != 3 {
		t.Errorf("Open behind a Format that broke: %v", met)
	}
}

// walk is a journal, its disk, what it has, and what its log has room for.
type walk struct {
	dice
	j    *rib.Journal
	d    *disk.Disk
	h    has
	area int
	log  logged
	met  map[string]int
}

func sectors(n int) int {
	return max(1, (n+47)/48)
}

// entries are some that may often stand behind a state, and not always.
func (k *walk) entries(s api.Base, count int) []api.Entry {
	var l []api.Entry
	for range count {
		client := 1 + k.roll(2)
		e := entry(max(s.At.Epoch, k.h.vow-min(k.h.vow, uint64(k.roll(2)))), client, s.Last[client].Seq+1+uint32(k.roll(3)))
		for range 1 + k.roll(3) {
			u := put(nth(k.roll(6)), 1+k.roll(4), k.roll(3), 1+k.roll(9))
			if len(s.Rib.Routes) > 0 && k.roll(3) == 0 {
				x := s.Rib.Routes[k.roll(len(s.Rib.Routes))]
				u = gone(x.Prefix, x.Source)
			}
			e.Batch.Updates = append(e.Batch.Updates, u)
		}
		switch k.roll(80) {
		case 0:
			e.Seq--
		case 1:
			e.Epoch++
		case 2:
			e.Client = k.roll(4)
		case 3:
			e.Batch = api.Batch{}
		}
		l = append(l, e)
		if entryWrong(k.h.vow, s, e) == api.OK {
			s = has{base: s, entries: []api.Entry{e}}.states()[1]
		}
	}
	return l
}

// change asks for one, and reckons what comes of it, and how it is written.
func (k *walk) change() (got, want api.Errno, next has, log logged) {
	next, log = k.h, k.log
	first := k.h.base.At.Index
	end := first + uint64(len(k.h.entries))
	near := first + uint64(k.roll(len(k.h.entries)+2))
	checkpoint := true
	var transaction []byte
	switch k.roll(10) {
	case 0:
		epoch := k.h.vow + uint64(k.roll(4)) - min(k.h.vow, 1)
		switch {
		case epoch < k.h.vow:
			want = api.ErrBelow
		case epoch > k.h.vow:
			next.vow, transaction = epoch, rawVow(epoch)
		}
		checkpoint, got = false, k.j.Vow(epoch)
	case 1:
		if near <= end {
			next = has{k.h.vow, k.h.states()[near-first], k.h.entries[near-first:]}
		} else {
			want = api.ErrArg
		}
		checkpoint = near != first
		got = k.j.Rest(near)
	case 2:
		b := base(at(near+uint64(k.roll(5)), uint64(k.roll(int(k.h.vow)+2))), last(uint32(k.roll(3)), uint64(k.roll(3))), last(0, 0), wide(k.roll(3), 1)...)
		if next = (has{vow: k.h.vow, base: b}); !baseRight(k.h.vow, b) {
			want = api.ErrArg
		}
		got = k.j.Take(b)
	default:
		index := near
		if k.roll(2) == 0 {
			index = end + 1
		}
		var l []api.Entry
		if k.h.reach(index) {
			l = k.entries(k.h.states()[index-1-first], k.roll(5))
		}
		if k.roll(6) == 0 && k.h.reach(index) {
			l = copied(k.h.entries[index-1-first:])
		}
		next, want = k.h.put(index, l)
		if want == api.OK && !next.same(k.h) {
			transaction = rawPut(index, l...)
		}
		checkpoint, got = false, k.j.Put(index, l)
	}
	if want != api.OK {
		return got, want, k.h, k.log
	}
	return got, want, next, k.written(next, transaction, checkpoint)
}

// written is the log behind a change, of which the transaction has no bytes, if there is none.
func (k *walk) written(next has, transaction []byte, checkpoint bool) logged {
	left := k.area - sectors(len(k.log.snapshot))
	for _, b := range k.log.rest {
		left -= sectors(len(b))
	}
	switch {
	case checkpoint || len(transaction) > 0 && sectors(len(transaction)) > left:
		k.met["checkpoint"]++
		return k.log.anew(rawSnapshot(next.vow, next.base, next.entries...))
	case len(transaction) > 0:
		k.met["transaction"]++
		return k.log.with(transaction)
	}
	k.met["nothing"]++
	return k.log
}

func walkOf(t *testing.T, seed, area int) *walk {
	t.Helper()
	j, d := formatted(t, area)
	return &walk{dice: dice(seed + 1), j: j, d: d, area: area, log: logOf(t, d), met: map[string]int{}}
}

func TestAWalk(t *testing.T) {
	errs := map[api.Errno]int{}
	met := map[string]int{}
	for seed := range 12 {
		k := walkOf(t, seed, 120)
		for range 150 {
			was := k.d.Ops()
			got, want, next, log := k.change()
			is(t, "a change", got, want)
			if nothing := log.turn == k.log.turn && len(log.rest) == len(k.log.rest); nothing != (k.d.Ops() == was) {
				t.Error("something is asked of the disk, and nothing changes, or the other way round")
			}
			k.h, k.log = next, log
			errs[want]++
			tells(t, "a walk", k.j, k.h)
			lies(t, "a walk", k.d, k.log)
			if k.roll(10) == 0 {
				does(t, "Crash", k.d.Crash(nil))
				k.j = opened(t, k.d)
				tells(t, "a walk, opened", k.j, k.h)
			}
		}
		for name, count := range k.met {
			met[name] += count
		}
	}
	for _, err := range []api.Errno{api.OK, api.ErrArg, api.ErrBelow, api.ErrEntry, api.ErrBatch} {
		if errs[err] < 10 {
			t.Errorf("the error %d comes %d times", err, errs[err])
		}
	}
	if met["checkpoint"] < 100 || met["transaction"] < 100 || met["nothing"] < 20 {
		t.Errorf("too few of a kind: %v", met)
	}
}

func TestAWalkWhoseDiskBreaks(t *testing.T) {
	opens, undone, done := 0, 0, 0
	for seed := range 20 {
		k := walkOf(t, seed, 60)
		for range 150 {
			if k.roll(6) == 0 {
				does(t, "Arm", k.d.Arm(k.roll(8)))
			} else if k.roll(6) == 0 {
				does(t, "Fail", k.d.Fail(k.roll(8)))
			}
			got, want, next, _ := k.change()
			if got == want {
				k.h = next
				continue
			}
			if !k.j.Down() || got != api.ErrDead && got != api.ErrIo && got != api.ErrFull {
				t.Fatalf("a change: %d, not %d, down %v", got, want, k.j.Down())
			}
			tells(t, "a journal that is down", k.j, k.h)
			keep := make([]bool, k.roll(9))
			for i := range keep {
				keep[i] = k.roll(2) == 0
			}
			does(t, "Crash", k.d.Crash(keep))
			k.j = opened(t, k.d)
			opens++
			switch now := of(k.j); {
			case now.same(k.h):
				undone++
			case now.same(next):
				k.h = next
				done++
			default:
				t.Fatalf("it has %s; neither %s nor %s", now.text(), k.h.text(), next.text())
			}
		}
	}
	if opens < 50 || undone < 10 || done < 3 {
		t.Errorf("opened %d times, undone %d times, done %d times", opens, undone, done)
	}
}

// TestNoSeqComesTwice: whatever is put, no client has a Seq twice, and no Epoch and no Seq falls.
func TestNoSeqComesTwice(t *testing.T) {
	j, d := formatted(t, 200)
	does(t, "Vow", j.Vow(3))
	for client := 1; client <= 2; client++ {
		for _, seq := range []uint32{3, 2, 3, 4, 1, 9, 8, math.MaxUint32, 0, math.MaxUint32} {
			j.Put(j.Last().Index+1, []api.Entry{entry(3, client, seq, put(pfx(), client, 0, 1))})
			if seq == 4 {
				does(t, "Rest", j.Rest(j.Last().Index))
			}
		}
	}
	s, _ := j.State(j.Last().Index)
	if s.Last != [3]api.Last{{}, last(math.MaxUint32, 4), last(math.MaxUint32, 8)} {
		t.Errorf("the last entries: %v", s.Last)
	}
	lasts(t, "the last entries", d, of(j))
}
