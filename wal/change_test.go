package wal_test

import (
	"math"
	"slices"
	"testing"

	"junctionbox/api"
	"junctionbox/wal"
)

// P4.3

func TestAppend(t *testing.T) {
	const area = 9
	w := formatted(t, area)
	d := w.Disk()
	at, model := 3, begins(1, nil, area)
	for i, n := range []int{0, 1, 47, 48, 49, 96} {
		b := text(n, i)
		blocks := frameOf(1, uint32(i+1), b)
		asks(t, d, appends(t, b), slices.Concat(writes(at, blocks...), syncs))
		want(t, "Append", w.Append(b), api.OK)
		model = model.with(b)
		stands(t, "Append", w, model)
		at += len(blocks)
		if p := plate(d); len(d.Pending()) != 0 || !slices.Equal(p[at-len(blocks):at], blocks) {
			t.Errorf("Append of %d: other sectors", n)
		}
		stands(t, "Open", opened(t, d.Copy()), model)
	}
	if w.Left() != 0 {
		t.Fatalf("Left: %d", w.Left())
	}
	ops := d.Ops()
	for _, n := range []int{0, 1, 48, 49, api.MaxTx} {
		want(t, "Append without room", w.Append(text(n, 1)), api.ErrFull)
	}
	for _, n := range []int{api.MaxTx + 1, api.MaxTx + 48, 3 * api.MaxTx} {
		want(t, "Append of too much", w.Append(text(n, 1)), api.ErrLong)
	}
	if d.Ops() != ops || w.Broken() {
		t.Error("what was refused was asked of the disk")
	}
	stands(t, "Append that is refused", w, model)
}

func TestAppendThatJustFits(t *testing.T) {
	for area := 4; area < 20; area++ {
		w := formatted(t, area)
		want(t, "Append of one part too many", w.Append(text(48*(area-1)+1, 1)), api.ErrFull)
		want(t, "Append", w.Append(text(48*(area-1), 2)), api.OK)
		stands(t, "Append", w, begins(1, nil, area).with(text(48*(area-1), 2)))
		stands(t, "Open", opened(t, w.Disk()), begins(1, nil, area).with(text(48*(area-1), 2)))
		if p := plate(w.Disk()); p[2+area] != noughts {
			t.Error("it stands on the other area, too")
		}
		want(t, "Append of nothing", w.Append(nil), api.ErrFull)
	}
}

func TestTheGreatestAppend(t *testing.T) {
	w := formatted(t, api.MaxArea)
	want(t, "Append", w.Append(text(api.MaxTx+1, 1)), api.ErrLong)
	want(t, "Append", w.Append(text(api.MaxTx, 1)), api.OK)
	model := begins(1, nil, api.MaxArea).with(text(api.MaxTx, 1))
	stands(t, "Append", w, model)
	want(t, "Append", w.Append(text(api.MaxTx, 2)), api.ErrFull)
	want(t, "Append", w.Append(text(48*165, 2)), api.OK)
	stands(t, "Open", opened(t, w.Disk()), model.with(text(48*165, 2)))
	want(t, "Checkpoint", w.Checkpoint(text(api.MaxTx+1, 3)), api.ErrLong)
	want(t, "Checkpoint", w.Checkpoint(text(api.MaxTx, 3)), api.OK)
	stands(t, "Checkpoint", w, begins(2, text(api.MaxTx, 3), api.MaxArea))
	stands(t, "Open", opened(t, w.Disk()), begins(2, text(api.MaxTx, 3), api.MaxArea))
}

func TestManySmallAppends(t *testing.T) {
	w := formatted(t, api.MaxArea)
	model := begins(1, nil, api.MaxArea)
	for i := range api.MaxArea - 1 {
		want(t, "Append", w.Append(text(i%49, i)), api.OK)
		model = model.with(text(i%49, i))
	}
	want(t, "Append", w.Append(nil), api.ErrFull)
	stands(t, "Append", w, model)
	stands(t, "Open", opened(t, w.Disk()), model)
}

// brokenBy has a log's act refused at each of its acts, and looks at what it answers then.
func brokenBy(t *testing.T, w *wal.Wal, acts int, call func(w *wal.Wal) api.Errno) {
	t.Helper()
	model := tells(t, w)
	for _, dead := range []bool{false, true} {
		for n := range acts {
			d := w.Disk().Copy()
			v := opened(t, d)
			err := api.ErrIo
			if dead {
				err = api.ErrDead
				want(t, "Arm", d.Arm(n), api.OK)
			} else {
				want(t, "Fail", d.Fail(n), api.OK)
			}
			want(t, "the call", call(v), err)
			for range 2 {
				if !v.Broken() {
					t.Fatalf("refused at %d: it is not broken", n)
				}
				stands(t, "a broken log", v, model)
				ops, rows := d.Ops(), d.Pending()
				want(t, "Append to a broken log", v.Append(nil), api.ErrIo)
				want(t, "Append of too much to a broken log", v.Append(text(api.MaxTx+1, 1)), api.ErrIo)
				want(t, "Append without room to a broken log", v.Append(text(api.MaxTx, 1)), api.ErrIo)
				want(t, "Checkpoint of a broken log", v.Checkpoint(nil), api.ErrIo)
				want(t, "Checkpoint of too much of a broken log", v.Checkpoint(text(api.MaxTx+1, 1)), api.ErrIo)
				if d.Ops() != ops || !slices.Equal(d.Pending(), rows) {
					t.Error("a broken log asks its disk")
				}
				want(t, "Crash", d.Crash(nil), api.OK) // with power, too, it is broken
			}
			stands(t, "Open", opened(t, d), model)
		}
	}
}

func TestALogThatIsBroken(t *testing.T) {
	w := formatted(t, 6)
	want(t, "Append", w.Append(text(50, 1)), api.OK)
	for _, n := range []int{0, 48, 49, 144} {
		b := text(n, 2)
		brokenBy(t, w, taken(n)+1, func(w *wal.Wal) api.Errno { return w.Append(b) })
		brokenBy(t, w, taken(n)+1, func(w *wal.Wal) api.Errno { return w.Checkpoint(b) })
	}
}

// P4.4

func TestCheckpoint(t *testing.T) {
	const area = 5
	w := formatted(t, area)
	d := w.Disk()
	for i, n := range []int{0, 1, 48, 49, 48 * area, 97, 0, 48*area - 1, 5} {
		before := tells(t, w)
		turn, first := uint32(i+2), 2+area*((i+1)%2)
		b := text(n, i)
		blocks := frameOf(turn, 0, b)
		asks(t, d, checkpoints(t, b), slices.Concat(writes(first, blocks...), syncs))
		kept := plate(d)[2+area*(i%2) : 2+area*(i%2)+area]
		want(t, "Checkpoint", w.Checkpoint(text(48*area+1, 9)), api.ErrFull)
		stands(t, "Checkpoint that is refused", w, before)
		want(t, "Checkpoint", w.Checkpoint(b), api.OK)
		model := begins(turn, b, area)
		stands(t, "Checkpoint", w, model)
		p := plate(d)
		if len(d.Pending()) != 0 || !slices.Equal(p[first:first+len(blocks)], blocks) || !slices.Equal(p[2+area*(i%2):2+area*(i%2)+area], kept) {
			t.Errorf("Checkpoint of %d: other sectors", n)
		}
		stands(t, "Open", opened(t, d.Copy()), model)
		for w.Append(text(20, i)) == api.OK {
			model = model.with(text(20, i))
		}
		stands(t, "Append behind it", w, model)
		stands(t, "Open", opened(t, d.Copy()), model)
	}
}

func TestCheckpointThatIsRefused(t *testing.T) {
	w := formatted(t, 4)
	d := w.Disk()
	want(t, "Append", w.Append(text(144, 1)), api.OK)
	model, ops := begins(1, nil, 4).with(text(144, 1)), d.Ops()
	want(t, "Checkpoint of too much", w.Checkpoint(text(api.MaxTx+1, 1)), api.ErrLong)
	want(t, "Checkpoint of far too much", w.Checkpoint(text(2*api.MaxTx, 1)), api.ErrLong)
	want(t, "Checkpoint without room", w.Checkpoint(text(api.MaxTx, 1)), api.ErrFull)
	want(t, "Checkpoint without room", w.Checkpoint(text(193, 1)), api.ErrFull)
	if d.Ops() != ops || w.Broken() {
		t.Error("what was refused was asked of the disk")
	}
	stands(t, "Checkpoint that is refused", w, model)
	// The area that does not count is empty: what stands on the one that counts takes no room there.
	want(t, "Checkpoint that just fits", w.Checkpoint(text(192, 1)), api.OK)
	stands(t, "Checkpoint", w, begins(2, text(192, 1), 4))
}

func TestTheLastTurn(t *testing.T) {
	a := text(5, 1)
	d := forged(t, 4, nil, frameOf(math.MaxUint32-1, 0, a))
	w := opened(t, d)
	want(t, "Checkpoint", w.Checkpoint(a), api.OK)
	model := begins(math.MaxUint32, a, 4)
	stands(t, "the last turn", w, model)
	ops := d.Ops()
	for _, n := range []int{0, 1, 193, api.MaxTx} {
		want(t, "Checkpoint of the last turn", w.Checkpoint(text(n, 1)), api.ErrFull)
	}
	want(t, "Checkpoint of the last turn, too long", w.Checkpoint(text(api.MaxTx+1, 1)), api.ErrLong)
	if d.Ops() != ops || w.Broken() {
		t.Error("what was refused was asked of the disk")
	}
	stands(t, "the last turn", w, model)
	want(t, "Append", w.Append(a), api.OK)
	stands(t, "Append", w, model.with(a))
	w = opened(t, d)
	stands(t, "Open", w, model.with(a))
	want(t, "Checkpoint of the last turn", w.Checkpoint(nil), api.ErrFull)
}
