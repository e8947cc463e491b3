package wal_test

import (
	"math"
	"slices"
	"testing"

	"junctionbox/api"
	"junctionbox/disk"
	"junctionbox/wal"
)

// The chapter's examples.

func TestTheExamples(t *testing.T) {
	d := made(t, 10)
	w, err := wal.Format(d, 4)
	want(t, "Format", err, api.OK)
	if w.Left() != 3 || w.Turn() != 1 || w.Len() != 0 || w.Disk() != d {
		t.Errorf("Left %d, Turn %d, Len %d", w.Left(), w.Turn(), w.Len())
	}
	want(t, "Append of 48", w.Append(text(48, 1)), api.OK)
	want(t, "Append of 49", w.Append(text(49, 2)), api.OK)
	want(t, "Append of 97", w.Append(text(97, 3)), api.ErrFull)
	if w.Left() != 0 {
		t.Errorf("Left: %d", w.Left())
	}
	want(t, "Checkpoint of 1", w.Checkpoint(text(1, 4)), api.OK)
	if w.Turn() != 2 || w.Left() != 3 || w.Len() != 0 {
		t.Errorf("Turn %d, Left %d, Len %d", w.Turn(), w.Left(), w.Len())
	}
	want(t, "Arm", d.Arm(1), api.OK)
	want(t, "Append of 49", w.Append(text(49, 5)), api.ErrDead)
	want(t, "Append of 1", w.Append(text(1, 6)), api.ErrIo)
	if !w.Broken() {
		t.Error("it is not broken")
	}
	want(t, "Crash", d.Crash([]bool{true}), api.OK)
	if b, _ := d.Read(7); b == noughts {
		t.Error("the first part was not written")
	}
	w, err = wal.Open(d)
	want(t, "Open", err, api.OK)
	stands(t, "Open", w, begins(2, text(1, 4), 4))
	if b, _ := d.Read(7); b != noughts {
		t.Error("the first part was not wiped")
	}
	refused(t, "a new disk", made(t, 10), api.ErrWal)
	if w, err := wal.Format(d, 3); w != nil || err != api.ErrArg {
		t.Errorf("Format(3): %d", err)
	}
	if wal.Sectors(0) != 1 || wal.Sectors(48) != 1 || wal.Sectors(49) != 2 {
		t.Error("Sectors")
	}
}

// P4.1

func TestSectors(t *testing.T) {
	for _, q := range []struct{ n, want int }{
		{0, 1}, {1, 1}, {47, 1}, {48, 1}, {49, 2}, {95, 2}, {96, 2}, {97, 3}, {144, 3}, {145, 4},
		{39983, 833}, {39984, 833}, {39985, 834}, {api.MaxTx - 1, 834}, {api.MaxTx, 834},
		{api.MaxTx + 1, 0}, {api.MaxTx + 100, 0}, {math.MaxInt, 0}, {math.MaxInt - 40, 0},
		{-1, 0}, {-47, 0}, {-48, 0}, {-49, 0}, {-1000, 0}, {math.MinInt, 0},
	} {
		if got := wal.Sectors(q.n); got != q.want {
			t.Errorf("Sectors(%d): %d, not %d", q.n, got, q.want)
		}
	}
	for n := range api.MaxTx + 1 {
		if got := wal.Sectors(n); got != taken(n) {
			t.Fatalf("Sectors(%d): %d", n, got)
		}
	}
}

func TestFormatOfWrongThings(t *testing.T) {
	for _, area := range []int{4, 3, 0, -1, api.MaxArea, api.MaxArea + 1} {
		if w, err := wal.Format(nil, area); w != nil || err != api.ErrNil {
			t.Errorf("Format(nil, %d): %d", area, err)
		}
	}
	for _, q := range []struct{ sectors, area int }{
		{2048, 3}, {2048, 2}, {2048, 1}, {2048, 0}, {2048, -1}, {2048, -4}, {2048, -1000},
		{2048, api.MaxArea + 1}, {2048, api.MaxArea + 2}, {2048, 1 << 32}, {2048, 1<<32 + 4}, {2048, 1 << 62}, {2048, 1<<62 + 4}, {2048, math.MaxInt}, {2048, math.MinInt}, {2048, math.MinInt + 4},
		{9, 4}, {8, 4}, {1, 4}, {10, 5}, {11, 5}, {2001, 1000}, {1, 1000}, {10, 1000},
	} {
		d := made(t, q.sectors)
		b := api.Block{7}
		lay(t, d, 0, b)
		want(t, "Arm", d.Arm(0), api.OK)
		ops := d.Ops()
		if w, err := wal.Format(d, q.area); w != nil || err != api.ErrArg {
			t.Errorf("Format of %d sectors, %d: %d", q.sectors, q.area, err)
		}
		if d.Ops() != ops || d.Dead() || plate(d)[0] != b {
			t.Errorf("Format of %d sectors, %d: something was done", q.sectors, q.area)
		}
	}
}

func TestFormatOfEachSize(t *testing.T) {
	for _, q := range []struct{ sectors, area int }{
		{10, 4}, {11, 4}, {12, 5}, {13, 5}, {2048, 4}, {20, 9}, {802, 400}, {2000, 999}, {2002, 1000}, {2048, 1000},
	} {
		d := made(t, q.sectors)
		var junk []api.Block
		for i := range q.sectors {
			junk = append(junk, api.Block(slices.Repeat([]byte{byte(i + 1), 255}, 32)))
		}
		lay(t, d, 0, junk...)
		w, err := wal.Format(d, q.area)
		if err != api.OK {
			t.Fatalf("Format of %d sectors, %d: %d", q.sectors, q.area, err)
		}
		stands(t, "Format", w, begins(1, nil, q.area))
		if w.Broken() || w.Disk() != d {
			t.Error("it is broken, or has another disk")
		}
		all := slices.Clone(junk)
		for i := range 2 + 2*q.area {
			all[i] = noughts
		}
		all[0], all[1], all[2] = labelOf(uint32(q.area)), labelOf(uint32(q.area)), sectorOf(1, 0, 0, 0, nil)
		if len(d.Pending()) != 0 || !slices.Equal(plate(d), all) {
			t.Errorf("Format of %d sectors, %d: the plate holds something else", q.sectors, q.area)
		}
		stands(t, "Open", opened(t, d), begins(1, nil, q.area))
	}
}

// formatting is what Format asks for.
func formatting(area int) []act {
	return slices.Concat(writes(0, make([]api.Block, 2+2*area)...), syncs, writes(2, sectorOf(1, 0, 0, 0, nil)), syncs, writes(0, labelOf(uint32(area)), labelOf(uint32(area))), syncs)
}

func TestFormatStepByStep(t *testing.T) {
	asks(t, made(t, 10), formats(4), formatting(4))
	asks(t, made(t, 30), formats(5), formatting(5))
	d := formatted(t, 4).Disk()
	lay(t, d, 2, frameOf(1, 0, text(100, 1))...)
	lay(t, d, 6, frameOf(9, 0, text(100, 2))...)
	asks(t, d, formats(4), formatting(4))
}

func TestFormatThatFailsAnswersNoLog(t *testing.T) {
	for n := range 2 + 8 + 1 + 1 + 1 + 2 + 1 {
		d := made(t, 10)
		want(t, "Fail", d.Fail(n), api.OK)
		if w, err := wal.Format(d, 4); w != nil || err != api.ErrIo {
			t.Errorf("Format that fails at %d: %v, %d", n, w != nil, err)
		}
		d = made(t, 10)
		want(t, "Arm", d.Arm(n), api.OK)
		if w, err := wal.Format(d, 4); w != nil || err != api.ErrDead {
			t.Errorf("Format without power at %d: %v, %d", n, w != nil, err)
		}
		if w, err := wal.Format(d, 4); w != nil || err != api.ErrDead {
			t.Errorf("Format of a dead disk: %v, %d", w != nil, err)
		}
		if w, err := wal.Format(d, 5); w != nil || err != api.ErrArg {
			t.Errorf("Format of a dead disk that is too small: %v, %d", w != nil, err)
		}
	}
}

func TestFormatAgain(t *testing.T) {
	w := formatted(t, 6)
	d := w.Disk()
	want(t, "Append", w.Append(text(100, 1)), api.OK)
	want(t, "Checkpoint", w.Checkpoint(text(100, 2)), api.OK)
	want(t, "Append", w.Append(text(100, 3)), api.OK)
	for _, area := range []int{5, 4, 6} {
		w, err := wal.Format(d, area)
		want(t, "Format", err, api.OK)
		stands(t, "Format", w, begins(1, nil, area))
		stands(t, "Open", opened(t, d), begins(1, nil, area))
	}
}

// P4.2: labels

func TestOpenOfWrongThings(t *testing.T) {
	refused(t, "nil", nil, api.ErrNil)
	refused(t, "a disk of one sector", made(t, 1), api.ErrArg)
	for _, n := range []int{2, 3, 9, 10, 2048} {
		refused(t, "a new disk", made(t, n), api.ErrWal)
	}
	d := formatted(t, 4).Disk()
	want(t, "Arm", d.Arm(0), api.OK)
	want(t, "Sync", d.Sync(), api.ErrDead)
	refused(t, "a dead disk", d, api.ErrDead)
}

func TestLabels(t *testing.T) {
	const area, other = 6, 4
	chains := func(d *disk.Disk) {
		lay(t, d, 2, frameOf(5, 0, text(3, 1))...)
	}
	for _, q := range []struct {
		name        string
		first, next api.Block
		err         api.Errno
		area        int
	}{
		{"both", labelOf(area), labelOf(area), api.OK, area},
		{"the first alone", labelOf(area), noughts, api.OK, area},
		{"the second alone", noughts, labelOf(area), api.OK, area},
		{"two that differ", labelOf(area), labelOf(other), api.OK, area},
		{"two that differ", labelOf(other), labelOf(area), api.OK, other},
		{"the first is too small", labelOf(api.MinArea - 1), labelOf(area), api.OK, area},
		{"the first is too great", labelOf(api.MaxArea + 1), labelOf(area), api.OK, area},
		{"the first is too great for the disk", labelOf(area + 1), labelOf(area), api.OK, area},
		{"the second is too small", labelOf(area), labelOf(0), api.OK, area},
		{"none", noughts, noughts, api.ErrWal, 0},
		{"too small", labelOf(api.MinArea - 1), labelOf(api.MinArea - 1), api.ErrWal, 0},
		{"nought", labelOf(0), labelOf(0), api.ErrWal, 0},
		{"too great for the disk", labelOf(area + 1), labelOf(api.MaxArea), api.ErrWal, 0},
		{"too great", labelOf(api.MaxArea + 1), labelOf(math.MaxUint32), api.ErrWal, 0},
		{"too great by far", labelOf(1 << 31), labelOf(1<<31 + 4), api.ErrWal, 0},
	} {
		d := made(t, 2+2*area)
		chains(d)
		lay(t, d, 0, q.first, q.next)
		if q.err != api.OK {
			refused(t, q.name, d, q.err)
			continue
		}
		stands(t, q.name, opened(t, d), begins(5, text(3, 1), q.area))
		if p := plate(d); p[0] != q.first || p[1] != q.next {
			t.Errorf("%s: Open has written a label", q.name)
		}
	}
}

func TestALabelWithAnotherByte(t *testing.T) {
	for i := range api.Sector {
		d := formatted(t, 5).Disk()
		b := labelOf(5)
		b[i] ^= 1
		lay(t, d, 0, b, b)
		refused(t, "another byte", d, api.ErrWal)
		lay(t, d, 1, labelOf(4))
		stands(t, "the label in the sector 1", opened(t, d), begins(1, nil, 4))
	}
	// Bytes that are not noughts, with the sum that they have.
	for i := 12; i < 60; i++ {
		d := formatted(t, 5).Disk()
		b := labelOf(5)
		b[i] = 1
		copy(b[60:], highest(summed(b[:60]), 4))
		lay(t, d, 0, b, b)
		refused(t, "a byte that is no nought", d, api.ErrWal)
	}
	for i := range 8 {
		d := formatted(t, 5).Disk()
		b := labelOf(5)
		b[i] -= 32
		copy(b[60:], highest(summed(b[:60]), 4))
		lay(t, d, 0, b, b)
		refused(t, "other letters", d, api.ErrWal)
	}
}

func TestLabelsOfEachSize(t *testing.T) {
	d := made(t, 2002)
	lay(t, d, 2, frameOf(5, 0, text(3, 1))...)
	for _, q := range []struct {
		area int
		err  api.Errno
	}{{3, api.ErrWal}, {4, api.OK}, {5, api.OK}, {999, api.OK}, {1000, api.OK}, {1001, api.ErrWal}} {
		lay(t, d, 0, labelOf(uint32(q.area)), labelOf(uint32(q.area)))
		if q.err != api.OK {
			refused(t, "a label", d, q.err)
			continue
		}
		stands(t, "a label", opened(t, d), begins(5, text(3, 1), q.area))
	}
	for _, q := range []struct {
		sectors int
		err     api.Errno
	}{{9, api.ErrWal}, {10, api.OK}, {11, api.OK}} {
		d := made(t, q.sectors)
		lay(t, d, 0, labelOf(4), labelOf(4), sectorOf(1, 0, 0, 0, nil))
		if q.err != api.OK {
			refused(t, "a disk that is too small", d, q.err)
			continue
		}
		stands(t, "a disk", opened(t, d), begins(1, nil, 4))
	}
}

// P4.2: chains

// forged is a disk with a log of so many sectors an area, and on its areas what is handed in.
func forged(t *testing.T, area int, zero, one []api.Block) *disk.Disk {
	t.Helper()
	d := formatted(t, area).Disk()
	blank := make([]api.Block, 2*area)
	copy(blank, zero)
	copy(blank[area:], one)
	lay(t, d, 2, blank...)
	return d
}

func TestChains(t *testing.T) {
	const area = 6
	a, b, c := text(20, 1), text(60, 2), text(0, 3)
	big := text(48*area, 4)
	for _, q := range []struct {
		name      string
		zero, one []api.Block
		want      state
	}{
		{"a snapshot", frameOf(7, 0, a), nil, begins(7, a, area)},
		{"a snapshot on the area 1", nil, frameOf(7, 0, a), begins(7, a, area)},
		{"a snapshot of no bytes", frameOf(7, 0, c), nil, begins(7, c, area)},
		{"a snapshot that fills the area", frameOf(7, 0, big), nil, begins(7, big, area)},
		{"a snapshot that fills the area 1", nil, frameOf(7, 0, big), begins(7, big, area)},
		{"the greatest turn", frameOf(math.MaxUint32, 0, a), nil, begins(math.MaxUint32, a, area)},
		{"transactions", rows(frameOf(7, 0, a), frameOf(7, 1, b), frameOf(7, 2, c)), nil, begins(7, a, area).with(b, c)},
		{"transactions on the area 1", nil, rows(frameOf(7, 0, a), frameOf(7, 1, b), frameOf(7, 2, c)), begins(7, a, area).with(b, c)},
		{"as many as there is room for", rows(frameOf(7, 0, a), frameOf(7, 1, c), frameOf(7, 2, c), frameOf(7, 3, c), frameOf(7, 4, a), frameOf(7, 5, a)), nil, begins(7, a, area).with(c, c, c, a, a)},
		{"another turn behind", rows(frameOf(7, 0, a), frameOf(7, 1, a), frameOf(6, 2, a)), nil, begins(7, a, area).with(a)},
		{"a greater turn behind", rows(frameOf(7, 0, a), frameOf(7, 1, a), frameOf(8, 2, a)), nil, begins(7, a, area).with(a)},
		{"a snapshot behind", rows(frameOf(7, 0, a), frameOf(7, 1, a), frameOf(8, 0, a)), nil, begins(7, a, area).with(a)},
		{"a snapshot of that turn behind", rows(frameOf(7, 0, a), frameOf(7, 0, b)), nil, begins(7, a, area)},
		{"a number that is left out", rows(frameOf(7, 0, a), frameOf(7, 2, a)), nil, begins(7, a, area)},
		{"a number twice", rows(frameOf(7, 0, a), frameOf(7, 1, a), frameOf(7, 1, a)), nil, begins(7, a, area).with(a)},
		{"a hole", rows(frameOf(7, 0, a), make([]api.Block, 1), frameOf(7, 1, a)), nil, begins(7, a, area)},
		{"the end of a frame is over the edge", rows(frameOf(7, 0, a), frameOf(7, 1, big))[:area], frameOf(7, 1, big)[area-1:], begins(7, a, area)},
		{"the end of a frame, which is one by itself", frameOf(7, 0, text(100, 1))[1:], nil, begins(7, text(100, 1)[48:], area)},
		{"a frame that goes on on the other area", frameOf(7, 0, text(48*area+50, 1))[:area], frameOf(7, 0, text(48*area+50, 1))[area:], begins(7, text(48*area+50, 1)[48*area:], area)},
		{"two, the greater on 0", frameOf(8, 0, a), rows(frameOf(7, 0, b), frameOf(7, 1, b)), begins(8, a, area)},
		{"two, the greater on 1", rows(frameOf(7, 0, b), frameOf(7, 1, b)), frameOf(8, 0, a), begins(8, a, area)},
		{"two, far apart", frameOf(1, 0, b), frameOf(math.MaxUint32, 0, a), begins(math.MaxUint32, a, area)},
		{"two, far apart", frameOf(1<<31, 0, a), frameOf(1<<31-1, 0, b), begins(1<<31, a, area)},
		{"two of one turn", frameOf(7, 0, a), rows(frameOf(7, 0, b), frameOf(7, 1, b)), begins(7, a, area)},
		{"the greater one is no snapshot", frameOf(7, 0, a), frameOf(8, 1, b), begins(7, a, area)},
		{"the greater one has no whole snapshot", frameOf(7, 0, a), frameOf(8, 0, b)[:1], begins(7, a, area)},
		{"the greater one is not at the first sector", frameOf(7, 0, a), rows(make([]api.Block, 1), frameOf(8, 0, b)), begins(7, a, area)},
	} {
		d := forged(t, area, q.zero, q.one)
		stands(t, q.name, opened(t, d), q.want)
		lasting(t, d, q.want)
	}
}

func TestNoChain(t *testing.T) {
	const area = 6
	for _, q := range []struct {
		name      string
		zero, one []api.Block
	}{
		{"noughts", nil, nil},
		{"a transaction alone", frameOf(7, 1, text(5, 1)), frameOf(7, 1, text(5, 1))},
		{"a snapshot behind a nought", rows(make([]api.Block, 1), frameOf(7, 0, nil)), rows(make([]api.Block, 1), frameOf(7, 0, nil))},
		{"the turn 0", frameOf(0, 0, text(5, 1)), frameOf(0, 0, nil)},
		{"over the edge", nil, frameOf(7, 0, text(48*area+1, 1))[:area]},
		{"half a snapshot", frameOf(7, 0, text(100, 1))[:2], frameOf(7, 0, text(100, 1))[:1]},
	} {
		d := forged(t, area, nil, nil)
		lay(t, d, 2, q.zero...)
		if q.one != nil {
			lay(t, d, 2+area, q.one...)
		}
		held := plate(d)
		refused(t, q.name, d, api.ErrWal)
		if len(d.Pending()) != 0 || !slices.Equal(plate(d), held) {
			t.Errorf("%s: something was written", q.name)
		}
	}
}

func TestWhatIsNoFrame(t *testing.T) {
	const area = 6
	full, some := text(48, 1), text(10, 2)
	for _, q := range []struct {
		name   string
		blocks []api.Block
	}{
		{"a part that is too short", []api.Block{sectorOf(7, 1, 1, 47, full[:47]), sectorOf(7, 1, 0, 10, some)}},
		{"an empty part ahead", []api.Block{sectorOf(7, 1, 1, 0, nil), sectorOf(7, 1, 0, 10, some)}},
		{"an empty part behind", []api.Block{sectorOf(7, 1, 1, 48, full), sectorOf(7, 1, 0, 0, nil)}},
		{"two parts for one", []api.Block{sectorOf(7, 1, 1, 10, some), sectorOf(7, 1, 0, 10, some)}},
		{"two empty parts", []api.Block{sectorOf(7, 1, 1, 0, nil), sectorOf(7, 1, 0, 0, nil)}},
		{"too many bytes for a part", []api.Block{sectorOf(7, 1, 0, 49, full)}},
		{"too many bytes for any part", []api.Block{sectorOf(7, 1, 0, 65535, full)}},
		{"too many bytes for a part ahead", []api.Block{sectorOf(7, 1, 1, 58, full), sectorOf(7, 1, 0, 10, some)}},
		{"bytes behind the bytes", []api.Block{sectorOf(7, 1, 0, 9, some)}},
		{"a byte at the end", []api.Block{sectorOf(7, 1, 0, 47, full)}},
		{"bytes of none", []api.Block{sectorOf(7, 1, 0, 0, some)}},
		{"one part behind that is missing", []api.Block{sectorOf(7, 1, 1, 48, full)}},
		{"too many parts behind", []api.Block{sectorOf(7, 1, 2, 48, full), sectorOf(7, 1, 1, 48, full)}},
		{"far too many parts behind", []api.Block{sectorOf(7, 1, 65535, 48, full), sectorOf(7, 1, 65534, 48, full)}},
		{"one behind twice", []api.Block{sectorOf(7, 1, 1, 48, full), sectorOf(7, 1, 1, 10, some)}},
		{"none behind twice", []api.Block{sectorOf(7, 1, 2, 48, full), sectorOf(7, 1, 0, 48, full), sectorOf(7, 1, 0, 10, some)}},
		{"another turn", []api.Block{sectorOf(7, 1, 1, 48, full), sectorOf(6, 1, 0, 10, some)}},
		{"another number", []api.Block{sectorOf(7, 1, 1, 48, full), sectorOf(7, 2, 0, 10, some)}},
		{"the order of parts", []api.Block{sectorOf(7, 1, 0, 10, some), sectorOf(7, 1, 1, 48, full)}[1:]},
		{"a hole", []api.Block{sectorOf(7, 1, 1, 48, full), noughts, sectorOf(7, 1, 0, 10, some)}},
		{"a snapshot's number", []api.Block{sectorOf(7, 0, 0, 10, some)}},
		{"the number of another turn", []api.Block{sectorOf(1, 7, 0, 10, some)}},
	} {
		want := begins(7, text(5, 3), area)
		d := forged(t, area, rows(frameOf(7, 0, text(5, 3)), q.blocks), nil)
		stands(t, q.name, opened(t, d), want)
		d = forged(t, area, nil, rows(frameOf(7, 0, text(5, 3)), q.blocks))
		stands(t, q.name, opened(t, d), want)
	}
}

func TestAFrameWithAnotherByte(t *testing.T) {
	const area = 6
	snapshot, b := text(5, 3), text(100, 1)
	good := frameOf(7, 1, b)
	for k := range good {
		for i := range api.Sector {
			bad := slices.Clone(good)
			bad[k][i] ^= 1 << (i % 8)
			d := forged(t, area, rows(frameOf(7, 0, snapshot), bad), nil)
			stands(t, "another byte", opened(t, d), begins(7, snapshot, area))
		}
	}
	d := forged(t, area, rows(frameOf(7, 0, snapshot), good), nil)
	stands(t, "the same bytes", opened(t, d), begins(7, snapshot, area).with(b))
}

func TestTheGreatestFrame(t *testing.T) {
	const area = api.MaxArea
	most, more, full := text(api.MaxTx, 1), text(api.MaxTx+1, 1), text(834*48, 1)
	d := forged(t, area, frameOf(7, 0, most), nil)
	stands(t, "a snapshot of MaxTx", opened(t, d), begins(7, most, area))
	for _, b := range [][]byte{more, full, text(834*48+1, 1), text(area*48, 1)} {
		refused(t, "a snapshot above MaxTx", forged(t, area, frameOf(7, 0, b), nil), api.ErrWal)
		refused(t, "a snapshot above MaxTx", forged(t, area, nil, frameOf(7, 0, b)), api.ErrWal)
	}
	d = forged(t, area, rows(frameOf(7, 0, nil), frameOf(7, 1, most)), nil)
	stands(t, "a transaction of MaxTx", opened(t, d), begins(7, nil, area).with(most))
	d = forged(t, area, rows(frameOf(7, 0, nil), frameOf(7, 1, more)), nil)
	stands(t, "a transaction above MaxTx", opened(t, d), begins(7, nil, area))
}

// P4.2: what is left over

// spotted is noughts with a number in the first four bytes, and something behind it.
func spotted(turn uint32) api.Block {
	return api.Block(slices.Concat(highest(uint64(turn), 4), text(60, int(turn%100))))
}

func TestWhatIsLeftOver(t *testing.T) {
	const area = 6
	a := text(60, 1)
	for _, q := range []struct {
		name      string
		zero, one []api.Block
		wiped     []int // sectors
	}{
		{"nothing", frameOf(7, 0, a), nil, nil},
		{"earlier turns stay", rows(frameOf(7, 0, a), []api.Block{spotted(6), spotted(1), spotted(0)}), rows(frameOf(6, 0, a), frameOf(6, 1, a)), nil},
		{"this turn goes", rows(frameOf(7, 0, a), []api.Block{spotted(6), spotted(7)}), []api.Block{spotted(6), spotted(7)}, []int{5, 9}},
		{"later turns go", rows(frameOf(7, 0, a), []api.Block{spotted(8), spotted(1 << 31), spotted(math.MaxUint32)}), []api.Block{spotted(9)}, []int{4, 5, 6, 8}},
		{"all behind, and the other area", rows(frameOf(7, 0, a), slices.Repeat([]api.Block{spotted(7)}, 4)), slices.Repeat([]api.Block{spotted(7)}, 6), []int{4, 5, 6, 7, 8, 9, 10, 11, 12, 13}},
		{"a chain of the same turn", frameOf(7, 0, a), rows(frameOf(7, 0, a), frameOf(7, 1, a), frameOf(6, 2, a)), []int{8, 9, 10, 11}},
		{"on the area 1", []api.Block{spotted(7), spotted(6), spotted(8)}, rows(frameOf(7, 0, a), frameOf(7, 1, a), []api.Block{spotted(9), spotted(5)}), []int{2, 4, 12}},
		{"parts that make no frame", rows(frameOf(7, 0, a), frameOf(7, 1, a)[:1]), frameOf(8, 0, a)[:1], []int{4, 8}},
		{"frames behind a hole", rows(frameOf(7, 0, a), make([]api.Block, 1), frameOf(7, 1, a)), nil, []int{5, 6}},
		{"an earlier chain, and later things behind it", frameOf(7, 0, a), rows(frameOf(6, 0, a), frameOf(6, 1, a), frameOf(7, 2, a)), []int{12, 13}},
	} {
		d := forged(t, area, q.zero, q.one)
		all := plate(d)
		acts := reads(2 + 2*area)
		for _, s := range q.wiped {
			all[s] = noughts
			acts = append(acts, writes(s, noughts)...)
		}
		asks(t, d, opens, slices.Concat(acts, syncs))
		w := opened(t, d)
		if len(d.Pending()) != 0 || !slices.Equal(plate(d), all) {
			t.Errorf("%s: other sectors were wiped", q.name)
		}
		lasting(t, d, tells(t, w))
	}
}

func TestOpenLeavesOtherSectorsAlone(t *testing.T) {
	d := made(t, 14)
	_, err := wal.Format(d, 4)
	want(t, "Format", err, api.OK)
	lay(t, d, 10, spotted(9), spotted(1), sectorOf(9, 0, 0, 0, nil), noughts)
	all := plate(d)
	opened(t, d)
	if !slices.Equal(plate(d), all) {
		t.Error("Open has written elsewhere")
	}
}

func TestOpenSyncsWhatTheBufferHolds(t *testing.T) {
	w := formatted(t, 5)
	d := w.Disk()
	want(t, "Fail", d.Fail(2), api.OK)
	want(t, "Append whose sync fails", w.Append(text(60, 1)), api.ErrIo)
	if len(d.Pending()) != 2 {
		t.Fatalf("rows: %v", d.Pending())
	}
	stands(t, "Open", opened(t, d), begins(1, nil, 5).with(text(60, 1)))
	if len(d.Pending()) != 0 {
		t.Error("Open has not synced")
	}
	want(t, "Crash", d.Crash(nil), api.OK)
	stands(t, "Open behind a crash", opened(t, d), begins(1, nil, 5).with(text(60, 1)))
}

func TestReadsOfOpen(t *testing.T) {
	const area = 4
	d := formatted(t, area).Disk()
	for n := range 2 + 2*area + 1 {
		c := d.Copy()
		want(t, "Fail", c.Fail(n), api.OK)
		ops := c.Ops()
		refused(t, "an act that fails", c, api.ErrIo)
		if c.Ops() != ops+n {
			t.Errorf("an act that fails at %d: %d acts", n, c.Ops()-ops)
		}
		stands(t, "Open again", opened(t, c), begins(1, nil, area))
	}
	// Without a right label no area is read, without a chain nothing is written.
	for _, q := range []struct {
		name   string
		spoilt []int
		acts   int
	}{{"no label", []int{0, 1}, 2}, {"no chain", []int{2}, 2 + 2*area}} {
		c := d.Copy()
		for _, s := range q.spoilt {
			lay(t, c, s, noughts)
		}
		want(t, "Fail", c.Fail(q.acts), api.OK)
		ops := c.Ops()
		refused(t, q.name, c, api.ErrWal)
		if c.Ops() != ops+q.acts {
			t.Errorf("%s: %d acts", q.name, c.Ops()-ops)
		}
		if _, err := c.Read(0); err != api.ErrIo {
			t.Errorf("%s: more acts were asked for", q.name)
		}
	}
}
