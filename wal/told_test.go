package wal_test

import (
	"bytes"
	"slices"
	"testing"

	"junctionbox/api"
	"junctionbox/wal"
)

// P4.5

func TestNil(t *testing.T) {
	var w *wal.Wal
	want(t, "Append", w.Append(nil), api.ErrNil)
	want(t, "Append of too much", w.Append(text(api.MaxTx+1, 1)), api.ErrNil)
	want(t, "Checkpoint", w.Checkpoint(nil), api.ErrNil)
	want(t, "Checkpoint of too much", w.Checkpoint(text(api.MaxTx+1, 1)), api.ErrNil)
	if len(w.Snapshot()) != 0 || w.Len() != 0 || w.Left() != 0 || w.Turn() != 0 || w.Broken() || w.Disk() != nil {
		t.Error("nil tells something")
	}
	for n := range w.All() {
		t.Errorf("nil tells the transaction %d", n)
	}
}

func TestNilAndEmptyBytes(t *testing.T) {
	a, b := formatted(t, 4), formatted(t, 4)
	want(t, "Append", a.Append(nil), api.OK)
	want(t, "Append", b.Append([]byte{}), api.OK)
	want(t, "Checkpoint", a.Checkpoint([]byte{}), api.OK)
	want(t, "Checkpoint", b.Checkpoint(nil), api.OK)
	alike(t, "nil and empty", a.Disk(), b.Disk())
	stands(t, "nil and empty", a, tells(t, b))
}

// spoil changes all bytes of a list, and those in the room behind its end.
func spoil(b []byte) {
	for i := range b[:cap(b)] {
		b[:cap(b)][i] ^= 255
	}
}

func TestNothingIsShared(t *testing.T) {
	w := formatted(t, 8)
	room := text(100, 1)
	a, b, c := text(100, 1)[:60:70], text(100, 1)[:10:90], text(100, 1)[:48:100]
	want(t, "Checkpoint", w.Checkpoint(a), api.OK)
	want(t, "Append", w.Append(b), api.OK)
	want(t, "Append", w.Append(c), api.OK)
	for _, x := range [][]byte{a, b, c} {
		if !bytes.Equal(x[:cap(x)], room[:cap(x)]) {
			t.Error("what was handed in was changed")
		}
		spoil(x)
	}
	model := begins(2, room[:60], 8).with(room[:10], room[:48])
	stands(t, "what was handed in is changed", w, model)
	one, two := w.Snapshot(), w.Snapshot()
	spoil(one)
	if !bytes.Equal(two, room[:60]) {
		t.Error("two snapshots share memory")
	}
	all := w.All()
	for _, b := range all {
		spoil(b)
	}
	for n, b := range all {
		if !bytes.Equal(b, model.rest[n-1]) {
			t.Errorf("the transaction %d is told in memory that is shared", n)
		}
	}
	stands(t, "what was answered is changed", w, model)
	w = opened(t, w.Disk())
	spoil(w.Snapshot())
	for _, b := range w.All() {
		spoil(b)
	}
	stands(t, "what was answered is changed", w, model)
}

func TestAllIsTakenWhenItIsCalled(t *testing.T) {
	w := formatted(t, 12)
	gone := func(all func(func(int, []byte) bool)) []int {
		var lengths []int
		for n, b := range all {
			if n != len(lengths)+1 {
				t.Errorf("the number %d", n)
			}
			lengths = append(lengths, len(b))
		}
		return lengths
	}
	none := w.All()
	var takes []func(func(int, []byte) bool)
	for i := range 5 {
		want(t, "Append", w.Append(text(i+1, 1)), api.OK)
		takes = append(takes, w.All())
	}
	want(t, "Checkpoint", w.Checkpoint(nil), api.OK)
	for range 5 {
		want(t, "Append", w.Append(text(40, 1)), api.OK)
	}
	for range 2 {
		if got := gone(none); len(got) != 0 {
			t.Errorf("All ahead of all: %v", got)
		}
		for i, all := range takes {
			if got := gone(all); !slices.Equal(got, []int{1, 2, 3, 4, 5}[:i+1]) {
				t.Errorf("All behind %d: %v", i+1, got)
			}
		}
	}
	if got := gone(w.All()); !slices.Equal(got, []int{40, 40, 40, 40, 40}) {
		t.Errorf("All: %v", got)
	}
}

func TestAllIsLeftEarly(t *testing.T) {
	w := formatted(t, 12)
	for i := range 5 {
		want(t, "Append", w.Append(text(i, 1)), api.OK)
	}
	all := w.All()
	for last := 1; last <= 5; last++ {
		met := 0
		for n := range all {
			met++
			if n == last {
				break
			}
		}
		if met != last {
			t.Errorf("left at %d: %d were told", last, met)
		}
	}
	// What is appended meanwhile is not told.
	met := 0
	for range all {
		want(t, "Append", w.Append(nil), api.OK)
		met++
	}
	if met != 5 || w.Len() != 10 {
		t.Errorf("%d were told, there are %d", met, w.Len())
	}
}

func TestTellingAsksNothingOfTheDisk(t *testing.T) {
	w := formatted(t, 5)
	d := w.Disk()
	want(t, "Append", w.Append(text(60, 1)), api.OK)
	want(t, "Arm", d.Arm(0), api.OK)
	want(t, "Sync", d.Sync(), api.ErrDead)
	ops := d.Ops()
	stands(t, "without power", w, begins(1, nil, 5).with(text(60, 1)))
	if d.Ops() != ops || w.Broken() {
		t.Error("telling is an act, or somebody else's refusal breaks the log")
	}
	want(t, "Crash", d.Crash(nil), api.OK)
	want(t, "Append", w.Append(text(1, 1)), api.OK)
	stands(t, "with power again", w, begins(1, nil, 5).with(text(60, 1), text(1, 1)))
}

func TestLogsGoByThemselves(t *testing.T) {
	w, v := formatted(t, 5), formatted(t, 5)
	want(t, "Append", w.Append(text(60, 1)), api.OK)
	want(t, "Fail", w.Disk().Fail(0), api.OK)
	want(t, "Append", w.Append(text(60, 1)), api.ErrIo)
	stands(t, "another log", v, begins(1, nil, 5))
	want(t, "Append", v.Append(text(1, 2)), api.OK)
	stands(t, "another log", v, begins(1, nil, 5).with(text(1, 2)))
}
