package wal_test

import (
	"slices"
	"testing"

	"junctionbox/api"
	"junctionbox/disk"
	"junctionbox/wal"
)

// P4.6

func TestCrashesOfFormat(t *testing.T) {
	met := [2]int{}
	crashes(t, made(t, 10), formats(4), func(c *disk.Disk) {
		if _, err := wal.Open(c.Copy()); err == api.ErrWal {
			met[0]++
			return
		}
		lasting(t, c, begins(1, nil, 4))
		met[1]++
	})
	if met[0] == 0 || met[1] == 0 {
		t.Errorf("no log %d times, a log %d times", met[0], met[1])
	}
}

// through has the power go in a call on a log of each kind, in the Open behind it, and in the one behind that: what is told is what was told last, or what the call does, whole, and once it is told it stays.
func through(t *testing.T, d *disk.Disk, ready start, before, after state) {
	t.Helper()
	met := [2]int{}
	crashes(t, d, ready, func(c *disk.Disk) {
		which := lasting(t, c.Copy(), before, after)
		met[which]++
		may := []state{before, after}
		if len(c.Pending()) == 0 { // else the buffer may still lose what an Open that fails has read
			may = may[which : which+1]
		}
		crashes(t, c, opens, func(e *disk.Disk) {
			lasting(t, e, may...)
		})
	})
	if met[0] == 0 || met[1] == 0 {
		t.Errorf("undone %d times, done %d times", met[0], met[1])
	}
}

func TestCrashesOfAppend(t *testing.T) {
	const area = 5
	for _, turns := range []int{0, 1, 2} {
		w := formatted(t, area)
		for i := range turns {
			for w.Append(text(60, i)) == api.OK {
			}
			want(t, "Checkpoint", w.Checkpoint(text(10, i)), api.OK)
		}
		want(t, "Append", w.Append(text(30, 7)), api.OK)
		before := tells(t, w)
		for _, n := range []int{0, 48, 49, 144} {
			through(t, w.Disk(), appends(t, text(n, 8)), before, before.with(text(n, 8)))
		}
	}
}

func TestCrashesOfCheckpoint(t *testing.T) {
	const area = 4
	for _, turns := range []int{0, 1, 2} {
		w := formatted(t, area)
		for i := range turns {
			want(t, "Append", w.Append(text(60, i)), api.OK)
			want(t, "Checkpoint", w.Checkpoint(text(10+50*i, i)), api.OK)
		}
		want(t, "Append", w.Append(text(80, 7)), api.OK)
		before := tells(t, w)
		for _, n := range []int{0, 48, 49, 192} {
			through(t, w.Disk(), checkpoints(t, text(n, 8)), before, begins(w.Turn()+1, text(n, 8), area))
		}
	}
}

func TestCrashesWithMoreThanTheBufferHolds(t *testing.T) {
	const area = 14
	w := formatted(t, area)
	want(t, "Append", w.Append(text(40, 1)), api.OK)
	before, b := tells(t, w), text(48*11, 2)
	for _, q := range []struct {
		ready start
		after state
	}{
		{appends(t, b), before.with(b)},
		{checkpoints(t, b), begins(2, b, area)},
	} {
		met := [2]int{}
		crashes(t, w.Disk(), q.ready, func(c *disk.Disk) {
			met[lasting(t, c, before, q.after)]++
		})
		if met[0] == 0 || met[1] == 0 {
			t.Errorf("undone %d times, done %d times", met[0], met[1])
		}
	}
}

func TestCrashesOfOpenThatWipes(t *testing.T) {
	const area = 6
	a := text(60, 1)
	want := begins(7, a, area).with(a)
	for _, d := range []*disk.Disk{
		forged(t, area, rows(frameOf(7, 0, a), frameOf(7, 1, a), []api.Block{spotted(7), spotted(8)}), rows(frameOf(6, 0, a), frameOf(7, 1, a))),
		forged(t, area, frameOf(8, 0, text(200, 2))[:4], rows(frameOf(7, 0, a), frameOf(7, 1, a), frameOf(7, 3, a))),
		forged(t, area, rows(frameOf(7, 0, a), frameOf(7, 1, a)), rows(frameOf(7, 0, a), frameOf(7, 1, nil))),
	} {
		crashes(t, d, opens, func(c *disk.Disk) {
			lasting(t, c, want)
		})
	}
}

// dice are numbers that look like chance, and are the same in each run.
type dice uint64

func (d *dice) roll(n int) int {
	*d = *d*6364136223846793005 + 1442695040888963407
	return int(uint64(*d) >> 33 % uint64(n))
}

// walk is a log, its disk, and what ought to be told.
type walk struct {
	dice
	w       *wal.Wal
	d       *disk.Disk
	area    int
	now     state
	maybe   []state // what Open may find besides
	reopens int
}

// change asks for an Append or a Checkpoint, and reckons what comes of it.
func (k *walk) change(t *testing.T) {
	b := text(k.roll(48*k.area+60), k.roll(100))
	if k.roll(2) == 0 {
		b = b[:k.roll(len(b)+1)%100%(len(b)+1)]
	}
	after, err := k.now.with(b), api.OK
	broken, room := k.w.Broken(), k.now.left
	call := k.w.Append
	if k.roll(4) == 0 {
		after, room, call = begins(k.now.turn+1, b, k.area), k.area, k.w.Checkpoint
	}
	got := call(b)
	switch {
	case broken:
		err = api.ErrIo
	case taken(len(b)) > room:
		err = api.ErrFull
	case got != api.OK:
		k.maybe = append(k.maybe, after)
		if !k.w.Broken() {
			t.Error("a refusal does not break the log")
		}
		return
	default:
		k.now = after
	}
	want(t, "a change", got, err)
}

// again opens the log, behind a crash or not.
func (k *walk) again(t *testing.T) {
	if k.d.Dead() || k.roll(2) == 0 {
		keep := make([]bool, k.roll(9))
		for i := range keep {
			keep[i] = k.roll(2) == 0
		}
		want(t, "Crash", k.d.Crash(keep), api.OK)
	}
	w, err := wal.Open(k.d)
	if err != api.OK {
		if err != api.ErrIo && err != api.ErrDead {
			t.Errorf("Open: %d", err)
		}
		return
	}
	k.w = w
	got := tells(t, w)
	if !got.same(k.now) && !slices.ContainsFunc(k.maybe, got.same) {
		t.Fatalf("Open tells what never was: turn %d, %d transactions", got.turn, len(got.rest))
	}
	k.now, k.maybe = got, nil
	k.reopens++
}

func TestAWalk(t *testing.T) {
	for seed := range 30 {
		area := 4 + seed%11
		w := formatted(t, area)
		k := &walk{dice: dice(seed + 1), w: w, d: w.Disk(), area: area, now: begins(1, nil, area)}
		for range 300 {
			switch k.roll(12) {
			case 0:
				k.d.Arm(k.roll(12))
			case 1:
				k.d.Fail(k.roll(30))
			case 2, 3:
				k.again(t)
			default:
				k.change(t)
			}
			stands(t, "a walk", k.w, k.now)
		}
		if k.reopens == 0 {
			t.Errorf("the walk %d has never opened its log", seed)
		}
	}
}
