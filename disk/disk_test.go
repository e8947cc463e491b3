package disk_test

import (
	"math"
	"slices"
	"testing"

	"junctionbox/api"
	"junctionbox/disk"
)

// noughts is what a sector holds at first.
var noughts api.Block

// block is one that no other number has, in all its bytes.
func block(n int) api.Block {
	var b api.Block
	for i := range b {
		b[i] = byte(n + 7*i + n*i + 1)
	}
	b[0], b[1], b[63] = byte(n+1), byte((n+1)>>8), byte(n)
	return b
}

// x, y, z are the blocks of the chapter's examples.
var x, y, z = block(1), block(2), block(3)

// made is a disk of so many sectors.
func made(t *testing.T, sectors int) *disk.Disk {
	t.Helper()
	d, err := disk.New(sectors)
	if err != api.OK || d == nil {
		t.Fatalf("New(%d): %d", sectors, err)
	}
	return d
}

// want fails if an answer is another one.
func want(t *testing.T, what string, got, want api.Errno) {
	t.Helper()
	if got != want {
		t.Errorf("%s: %d, not %d", what, got, want)
	}
}

// write writes, and fails if that is not done.
func write(t *testing.T, d *disk.Disk, i int, b api.Block) {
	t.Helper()
	want(t, "Write", d.Write(i, b), api.OK)
}

// reads fails if a sector does not show b.
func reads(t *testing.T, d *disk.Disk, i int, b api.Block) {
	t.Helper()
	if got, err := d.Read(i); got != b || err != api.OK {
		t.Errorf("Read(%d): %v, %d; not %v", i, got[:4], err, b[:4])
	}
}

// refused fails if a Read does not answer err, and noughts.
func refused(t *testing.T, d *disk.Disk, i int, err api.Errno) {
	t.Helper()
	if got, e := d.Read(i); got != noughts || e != err {
		t.Errorf("Read(%d): %v, %d; not noughts, %d", i, got[:4], e, err)
	}
}

// pends fails if the rows are not those of these sectors.
func pends(t *testing.T, d *disk.Disk, sectors ...int) {
	t.Helper()
	if got := d.Pending(); !slices.Equal(got, sectors) {
		t.Errorf("Pending: %v, not %v", got, sectors)
	}
}

// behind is what all sectors of a disk would show behind a crash: d itself is not asked for an act.
func behind(d *disk.Disk, keep ...bool) []api.Block {
	c := d.Copy()
	c.Crash(keep)
	all := make([]api.Block, c.Len())
	for i := range all {
		all[i], _ = c.Read(i)
	}
	return all
}

// plate is what a disk's sectors hold for good.
func plate(d *disk.Disk) []api.Block {
	return behind(d)
}

// shown is what a disk's sectors show.
func shown(d *disk.Disk) []api.Block {
	return behind(d, true, true, true, true, true, true, true, true)
}

// killed is a disk without power, and as it was else.
func killed(t *testing.T, d *disk.Disk) {
	t.Helper()
	want(t, "Arm(0)", d.Arm(0), api.OK)
	want(t, "Sync with a fuse of 0", d.Sync(), api.ErrDead)
}

// P2.1

func TestNewOfWrongSizes(t *testing.T) {
	for _, n := range []int{0, -1, -2, -20, api.MaxSectors + 1, api.MaxSectors + 2, 1 << 40, math.MaxInt, math.MinInt} {
		if d, err := disk.New(n); d != nil || err != api.ErrArg {
			t.Errorf("New(%d): %v, %d", n, d != nil, err)
		}
	}
}

func TestNewAndLen(t *testing.T) {
	for _, n := range []int{1, 2, 8, 9, 20, 2047, api.MaxSectors} {
		d := made(t, n)
		if d.Len() != n {
			t.Errorf("New(%d): Len %d", n, d.Len())
		}
		if d.Dead() || d.Ops() != 0 {
			t.Errorf("New(%d): Dead %v, Ops %d", n, d.Dead(), d.Ops())
		}
		pends(t, d)
		for i := range n {
			reads(t, d, i, noughts)
		}
		refused(t, d, n, api.ErrArg)
		refused(t, d, -1, api.ErrArg)
		write(t, d, n-1, x)
		want(t, "Sync", d.Sync(), api.OK)
		reads(t, d, n-1, x)
		if d.Len() != n {
			t.Errorf("Len is now %d, not %d", d.Len(), n)
		}
	}
}

func TestANewDiskHasNeitherFuseNorFlaw(t *testing.T) {
	d := made(t, 3)
	for n := range 200 {
		write(t, d, n%3, block(n))
		reads(t, d, n%3, block(n))
		want(t, "Sync", d.Sync(), api.OK)
	}
}

func TestDisksGoByThemselves(t *testing.T) {
	d, e := made(t, 3), made(t, 3)
	write(t, d, 1, x)
	want(t, "Sync", d.Sync(), api.OK)
	reads(t, e, 1, noughts)
	killed(t, d)
	write(t, e, 1, y)
	reads(t, e, 1, y)
}

// P2.2

func TestTheExamples(t *testing.T) {
	d := made(t, 20)
	write(t, d, 3, x)
	write(t, d, 5, y)
	write(t, d, 3, z)
	pends(t, d, 3, 5)
	reads(t, d, 3, z)
	want(t, "Crash", d.Crash([]bool{false, true}), api.OK)
	reads(t, d, 3, noughts)
	reads(t, d, 5, y)
	for i := range 9 {
		write(t, d, i, x)
	}
	pends(t, d, 1, 2, 3, 4, 5, 6, 7, 8)
	want(t, "Crash", d.Crash(nil), api.OK)
	reads(t, d, 0, x)
	reads(t, d, 1, noughts)
	want(t, "Arm", d.Arm(1), api.OK)
	write(t, d, 0, y)
	want(t, "Sync", d.Sync(), api.ErrDead)
	refused(t, d, 0, api.ErrDead)
	want(t, "Crash", d.Crash([]bool{true}), api.OK)
	reads(t, d, 0, y)
	want(t, "Fail", d.Fail(0), api.OK)
	refused(t, d, 0, api.ErrIo)
	reads(t, d, 0, y)
	refused(t, d, 20, api.ErrArg)
	if _, err := disk.New(0); err != api.ErrArg {
		t.Errorf("New(0): %d", err)
	}
}

func TestWhatIsWrittenStandsInTheBuffer(t *testing.T) {
	d := made(t, 4)
	write(t, d, 2, x)
	reads(t, d, 2, x)
	if p := plate(d); p[2] != noughts {
		t.Error("a Write alone has gone down")
	}
	reads(t, d, 1, noughts)
	reads(t, d, 3, noughts)
	want(t, "Sync", d.Sync(), api.OK)
	pends(t, d)
	if p := plate(d); p[2] != x {
		t.Error("a Sync has not gone down")
	}
	write(t, d, 2, noughts)
	reads(t, d, 2, noughts)
	if p := plate(d); p[2] != x {
		t.Error("a Write of noughts has gone down")
	}
	pends(t, d, 2)
}

func TestASectorWrittenTwiceKeepsItsPlace(t *testing.T) {
	d := made(t, 10)
	for i := range api.MaxHeld {
		write(t, d, 9-i, block(i))
	}
	for i := range api.MaxHeld {
		write(t, d, 9-i, block(100+i))
		pends(t, d, 9, 8, 7, 6, 5, 4, 3, 2)
		reads(t, d, 9-i, block(100+i))
	}
	for i, b := range plate(d) {
		if b != noughts {
			t.Errorf("sector %d went down", i)
		}
	}
	// The row is still the eldest one, by the first of its writes.
	write(t, d, 0, x)
	pends(t, d, 8, 7, 6, 5, 4, 3, 2, 0)
	if p := plate(d); p[9] != block(100) || p[8] != noughts || p[0] != noughts {
		t.Error("another one than the eldest went down")
	}
}

func TestABufferThatIsFull(t *testing.T) {
	d := made(t, 64)
	for i := range 64 {
		write(t, d, i, block(i))
		var sectors []int
		for k := max(0, i-api.MaxHeld+1); k <= i; k++ {
			sectors = append(sectors, k)
		}
		pends(t, d, sectors...)
		for k, b := range plate(d) {
			if down := k <= i-api.MaxHeld; down && b != block(k) || !down && b != noughts {
				t.Fatalf("behind the Write of %d: the plate's sector %d", i, k)
			}
		}
		for k := range i + 1 {
			reads(t, d, k, block(k))
		}
	}
}

func TestASectorThatWentDownMayComeAgain(t *testing.T) {
	d := made(t, 20)
	for i := range 9 {
		write(t, d, i, x)
	}
	write(t, d, 0, y)
	pends(t, d, 2, 3, 4, 5, 6, 7, 8, 0)
	reads(t, d, 0, y)
	if p := plate(d); p[0] != x || p[1] != x || p[2] != noughts {
		t.Error("the plate has not what went down")
	}
	want(t, "Sync", d.Sync(), api.OK)
	if p := plate(d); p[0] != y {
		t.Error("the plate has not the last one of two blocks")
	}
}

func TestSyncOfNothing(t *testing.T) {
	d := made(t, 1)
	want(t, "Sync", d.Sync(), api.OK)
	want(t, "Sync", d.Sync(), api.OK)
	reads(t, d, 0, noughts)
	if d.Ops() != 3 {
		t.Errorf("Ops: %d", d.Ops())
	}
}

func TestNoSuchSector(t *testing.T) {
	d := made(t, 20)
	write(t, d, 19, x)
	want(t, "Arm", d.Arm(1), api.OK)
	want(t, "Fail", d.Fail(1), api.OK)
	ops := d.Ops()
	for _, i := range []int{-1, -2, -20, 20, 21, 2048, 1 << 40, math.MaxInt, math.MinInt} {
		refused(t, d, i, api.ErrArg)
		want(t, "Write of no sector", d.Write(i, y), api.ErrArg)
	}
	pends(t, d, 19)
	if d.Ops() != ops || d.Dead() {
		t.Errorf("Ops %d, Dead %v", d.Ops(), d.Dead())
	}
	// Neither the fuse nor the flaw has counted any of them.
	reads(t, d, 19, x)
	refused(t, d, 19, api.ErrIo)
	write(t, d, 19, y)
	refused(t, d, 20, api.ErrArg)
	want(t, "Write of no sector, the fuse at 0", d.Write(20, z), api.ErrArg)
	if d.Dead() {
		t.Error("the power went at no act")
	}
	want(t, "Write", d.Write(19, z), api.ErrDead)
}

func TestADiskWithoutPower(t *testing.T) {
	d := made(t, 5)
	write(t, d, 1, x)
	write(t, d, 4, y)
	killed(t, d)
	ops := d.Ops()
	for range 3 {
		for _, i := range []int{0, 1, 4, 5, -1, math.MaxInt, math.MinInt} {
			refused(t, d, i, api.ErrDead)
			want(t, "Write", d.Write(i, z), api.ErrDead)
		}
		want(t, "Sync", d.Sync(), api.ErrDead)
		for _, n := range []int{-1, 0, 1, 9} {
			want(t, "Arm", d.Arm(n), api.ErrDead)
			want(t, "Fail", d.Fail(n), api.ErrDead)
		}
		if !d.Dead() || d.Ops() != ops || d.Len() != 5 {
			t.Errorf("Dead %v, Ops %d, Len %d", d.Dead(), d.Ops(), d.Len())
		}
		pends(t, d, 1, 4)
	}
	want(t, "Crash", d.Crash([]bool{true, true}), api.OK)
	reads(t, d, 1, x)
	reads(t, d, 4, y)
	reads(t, d, 0, noughts)
}

// acts are the three of them, on a disk that has sector 0.
var acts = []struct {
	name    string
	changes bool
	do      func(d *disk.Disk, b api.Block) api.Errno
}{
	{"Read", false, func(d *disk.Disk, b api.Block) api.Errno { _, err := d.Read(0); return err }},
	{"Write", true, func(d *disk.Disk, b api.Block) api.Errno { return d.Write(0, b) }},
	{"Sync", true, func(d *disk.Disk, b api.Block) api.Errno { return d.Sync() }},
}

func TestAFuseCountsWritesAndSyncs(t *testing.T) {
	for n := range 5 {
		for _, a := range acts {
			d := made(t, 2)
			write(t, d, 1, x)
			want(t, "Arm", d.Arm(n), api.OK)
			for k := range 10 {
				err := api.OK
				if a.changes && k >= n {
					err = api.ErrDead
				}
				want(t, a.name, a.do(d, block(k)), err)
				if d.Dead() != (err == api.ErrDead) {
					t.Errorf("fuse %d, %s %d: Dead %v", n, a.name, k, d.Dead())
				}
			}
		}
	}
}

func TestReadsDoNotBurnAFuse(t *testing.T) {
	d := made(t, 2)
	want(t, "Arm", d.Arm(1), api.OK)
	for range 5 {
		reads(t, d, 0, noughts)
	}
	want(t, "Sync", d.Sync(), api.OK)
	for range 5 {
		reads(t, d, 0, noughts)
	}
	want(t, "Write", d.Write(0, x), api.ErrDead)
	refused(t, d, 0, api.ErrDead)
}

func TestAnActAtWhichThePowerGoesDoesNothing(t *testing.T) {
	d := made(t, 20)
	for i := range api.MaxHeld {
		write(t, d, i, x)
	}
	for _, do := range []func(d *disk.Disk) api.Errno{
		func(d *disk.Disk) api.Errno { return d.Write(3, y) },
		func(d *disk.Disk) api.Errno { return d.Write(12, y) },
		func(d *disk.Disk) api.Errno { return d.Sync() },
	} {
		c := d.Copy()
		want(t, "Arm", c.Arm(0), api.OK)
		want(t, "the act", do(c), api.ErrDead)
		pends(t, c, 0, 1, 2, 3, 4, 5, 6, 7)
		if !slices.Equal(plate(c), plate(d)) || !slices.Equal(shown(c), shown(d)) || c.Ops() != d.Ops() {
			t.Error("something of it is done")
		}
	}
}

func TestAFlawCountsAllActs(t *testing.T) {
	for n := range 5 {
		for _, a := range acts {
			d := made(t, 2)
			want(t, "Fail", d.Fail(n), api.OK)
			for k := range 10 {
				err := api.OK
				if k == n {
					err = api.ErrIo
				}
				want(t, a.name, a.do(d, block(k)), err)
			}
			if d.Dead() || d.Ops() != 9 {
				t.Errorf("flaw %d, %s: Dead %v, Ops %d", n, a.name, d.Dead(), d.Ops())
			}
		}
	}
	d := made(t, 2)
	want(t, "Fail", d.Fail(3), api.OK)
	reads(t, d, 0, noughts)
	write(t, d, 0, x)
	want(t, "Sync", d.Sync(), api.OK)
	refused(t, d, 0, api.ErrIo)
	reads(t, d, 0, x)
}

func TestAnActThatFailsDoesNothing(t *testing.T) {
	d := made(t, 20)
	for i := range api.MaxHeld {
		write(t, d, i, x)
	}
	was, held, ops := shown(d), plate(d), d.Ops()
	for _, do := range []func() api.Errno{
		func() api.Errno { return d.Write(3, y) },
		func() api.Errno { return d.Write(12, y) },
		func() api.Errno { return d.Sync() },
		func() api.Errno { _, err := d.Read(3); return err },
	} {
		want(t, "Fail", d.Fail(0), api.OK)
		want(t, "the act", do(), api.ErrIo)
		pends(t, d, 0, 1, 2, 3, 4, 5, 6, 7)
		if !slices.Equal(plate(d), held) || !slices.Equal(shown(d), was) || d.Ops() != ops || d.Dead() {
			t.Error("something of it is done")
		}
	}
}

func TestAFuseAndAFlawAtOneAct(t *testing.T) {
	for n := range 4 {
		d := made(t, 2)
		write(t, d, 0, x)
		want(t, "Arm", d.Arm(n), api.OK)
		want(t, "Fail", d.Fail(n), api.OK)
		for k := range n {
			write(t, d, 1, block(k))
		}
		want(t, "Write", d.Write(1, z), api.ErrDead)
		if !d.Dead() {
			t.Error("the power is there")
		}
		want(t, "Crash", d.Crash([]bool{true}), api.OK)
		reads(t, d, 0, x)
		reads(t, d, 1, noughts)
		write(t, d, 1, y)
		want(t, "Sync", d.Sync(), api.OK)
	}
}

func TestAReadFailsThoughTheFuseIsDue(t *testing.T) {
	d := made(t, 2)
	want(t, "Arm", d.Arm(0), api.OK)
	want(t, "Fail", d.Fail(0), api.OK)
	refused(t, d, 0, api.ErrIo)
	reads(t, d, 0, noughts)
	want(t, "Sync", d.Sync(), api.ErrDead)
}

func TestWhatFailsDoesNotBurnAFuse(t *testing.T) {
	for _, a := range acts[1:] {
		d := made(t, 2)
		want(t, "Arm", d.Arm(2), api.OK)
		want(t, "Fail", d.Fail(0), api.OK)
		want(t, a.name, a.do(d, x), api.ErrIo)
		want(t, a.name, a.do(d, x), api.OK)
		want(t, a.name, a.do(d, y), api.OK)
		want(t, a.name, a.do(d, z), api.ErrDead)
	}
}

// P2.3

func TestPendingIsNewMemory(t *testing.T) {
	d := made(t, 20)
	pends(t, d)
	write(t, d, 7, x)
	write(t, d, 0, x)
	write(t, d, 19, x)
	pends(t, d, 7, 0, 19)
	got := d.Pending()
	got[0], got[1] = 5, 5
	_ = append(got, 4)
	pends(t, d, 7, 0, 19)
	write(t, d, 4, x)
	write(t, d, 0, y)
	pends(t, d, 7, 0, 19, 4)
	if !slices.Equal(got, []int{5, 5, 19}) {
		t.Errorf("what was answered has changed: %v", got)
	}
	want(t, "Sync", d.Sync(), api.OK)
	pends(t, d)
	write(t, d, 19, x)
	pends(t, d, 19)
	want(t, "Crash", d.Crash(nil), api.OK)
	pends(t, d)
}

// P2.4

func TestArmAndFailInThePlaceOfTheOneThatThereWas(t *testing.T) {
	d := made(t, 2)
	want(t, "Arm", d.Arm(0), api.OK)
	want(t, "Arm", d.Arm(2), api.OK)
	write(t, d, 0, x)
	want(t, "Arm", d.Arm(1), api.OK)
	write(t, d, 0, y)
	want(t, "Arm", d.Arm(3), api.OK)
	for _, n := range []int{-1, -2, math.MinInt} {
		want(t, "Arm", d.Arm(0), api.OK)
		want(t, "Arm", d.Arm(n), api.OK)
		for range 10 {
			want(t, "Sync", d.Sync(), api.OK)
		}
	}
	want(t, "Fail", d.Fail(0), api.OK)
	want(t, "Fail", d.Fail(1), api.OK)
	reads(t, d, 0, y)
	want(t, "Fail", d.Fail(1), api.OK)
	reads(t, d, 0, y)
	refused(t, d, 0, api.ErrIo)
	for _, n := range []int{-1, -2, math.MinInt} {
		want(t, "Fail", d.Fail(0), api.OK)
		want(t, "Fail", d.Fail(n), api.OK)
		for range 10 {
			reads(t, d, 0, y)
		}
	}
	want(t, "Arm", d.Arm(math.MaxInt), api.OK)
	want(t, "Fail", d.Fail(math.MaxInt), api.OK)
	write(t, d, 0, z)
	reads(t, d, 0, z)
	if d.Dead() {
		t.Error("Dead")
	}
}

func TestArmAndFailAreNoActs(t *testing.T) {
	d := made(t, 2)
	want(t, "Arm", d.Arm(1), api.OK)
	want(t, "Fail", d.Fail(2), api.OK)
	d.Pending()
	d.Dead()
	d.Len()
	d.Ops()
	d.Copy()
	want(t, "Fail", d.Fail(0), api.OK)
	want(t, "Arm", d.Arm(0), api.OK)
	want(t, "Arm", d.Arm(0), api.OK)
	refused(t, d, 0, api.ErrIo)
	if d.Ops() != 0 {
		t.Errorf("Ops: %d", d.Ops())
	}
	want(t, "Write", d.Write(0, x), api.ErrDead)
}

// P2.5

func TestCrashKeepsWhatItIsTold(t *testing.T) {
	for size := range api.MaxHeld + 1 {
		for bits := range 1 << size {
			d := made(t, 10)
			for i := range 10 {
				write(t, d, i, block(i))
			}
			want(t, "Sync", d.Sync(), api.OK)
			for i := range size {
				write(t, d, 9-i, block(50+i))
			}
			keep := make([]bool, size)
			for i := range keep {
				keep[i] = bits>>i&1 == 1
			}
			was := slices.Clone(keep)
			want(t, "Crash", d.Crash(keep), api.OK)
			if !slices.Equal(keep, was) {
				t.Fatal("keep has changed")
			}
			pends(t, d)
			for i := range 10 {
				b := block(9 - i)
				if i < size && keep[i] {
					b = block(50 + i)
				}
				reads(t, d, 9-i, b)
			}
		}
	}
}

func TestCrashOfAnotherLength(t *testing.T) {
	d := made(t, 9)
	for i := range 4 {
		write(t, d, i, x)
	}
	for _, q := range []struct {
		keep []bool
		down []int
	}{
		{nil, nil},
		{[]bool{}, nil},
		{[]bool{true}, []int{0}},
		{[]bool{false, true, true}, []int{1, 2}},
		{[]bool{true, true, true, true}, []int{0, 1, 2, 3}},
		{[]bool{false, false, false, true, true, true}, []int{3}},
		{slices.Repeat([]bool{true}, 5000), []int{0, 1, 2, 3}},
		{[]bool{true, false, true}[:1], []int{0}},
	} {
		for i, b := range behind(d, q.keep...) {
			if down := slices.Contains(q.down, i); down && b != x || !down && b != noughts {
				t.Errorf("%d of keep: sector %d", len(q.keep), i)
			}
		}
	}
	e := made(t, 9)
	want(t, "Crash of no rows", e.Crash([]bool{true, true}), api.OK)
	for i := range 9 {
		reads(t, e, i, noughts)
	}
}

func TestBehindACrashThereIsPowerAndNothingElse(t *testing.T) {
	d := made(t, 3)
	want(t, "Arm", d.Arm(1), api.OK)
	want(t, "Fail", d.Fail(2), api.OK)
	write(t, d, 0, x)
	want(t, "Crash", d.Crash(nil), api.OK)
	for n := range 10 {
		write(t, d, 1, block(n))
		reads(t, d, 1, block(n))
		want(t, "Sync", d.Sync(), api.OK)
	}
	killed(t, d)
	want(t, "Crash", d.Crash(nil), api.OK)
	if d.Dead() {
		t.Error("the power has not come again")
	}
	for n := range 10 {
		write(t, d, 1, block(n))
		reads(t, d, 1, block(n))
		want(t, "Sync", d.Sync(), api.OK)
	}
	if d.Ops() != 61 || d.Len() != 3 {
		t.Errorf("Ops %d, Len %d", d.Ops(), d.Len())
	}
	want(t, "Arm", d.Arm(0), api.OK)
	want(t, "Sync", d.Sync(), api.ErrDead)
}

// P2.6

func TestOps(t *testing.T) {
	d := made(t, 4)
	for _, q := range []struct {
		do   func() api.Errno
		want api.Errno
		ops  int
	}{
		{func() api.Errno { return d.Write(0, x) }, api.OK, 1},
		{func() api.Errno { return d.Write(0, x) }, api.OK, 2},
		{func() api.Errno { _, err := d.Read(0); return err }, api.OK, 3},
		{func() api.Errno { return d.Sync() }, api.OK, 4},
		{func() api.Errno { return d.Sync() }, api.OK, 5},
		{func() api.Errno { _, err := d.Read(4); return err }, api.ErrArg, 5},
		{func() api.Errno { return d.Write(-1, x) }, api.ErrArg, 5},
		{func() api.Errno { return d.Fail(0) }, api.OK, 5},
		{func() api.Errno { return d.Sync() }, api.ErrIo, 5},
		{func() api.Errno { return d.Arm(0) }, api.OK, 5},
		{func() api.Errno { return d.Sync() }, api.ErrDead, 5},
		{func() api.Errno { return d.Sync() }, api.ErrDead, 5},
		{func() api.Errno { return d.Crash(nil) }, api.OK, 5},
		{func() api.Errno { _, err := d.Read(3); return err }, api.OK, 6},
	} {
		want(t, "the call", q.do(), q.want)
		if d.Ops() != q.ops {
			t.Errorf("Ops: %d, not %d", d.Ops(), q.ops)
		}
	}
}

func TestACopyGoesOnByItself(t *testing.T) {
	d := made(t, 20)
	write(t, d, 1, x)
	want(t, "Sync", d.Sync(), api.OK)
	for i := range 7 {
		write(t, d, i, y)
	}
	c := d.Copy()
	// Both buffers have room for one more: neither may lay it where the other one has its own.
	write(t, d, 10, block(10))
	write(t, c, 11, block(11))
	write(t, d, 0, z)
	pends(t, d, 0, 1, 2, 3, 4, 5, 6, 10)
	pends(t, c, 0, 1, 2, 3, 4, 5, 6, 11)
	reads(t, d, 10, block(10))
	reads(t, c, 11, block(11))
	reads(t, d, 11, noughts)
	reads(t, c, 10, noughts)
	reads(t, c, 0, y)
	want(t, "Sync", d.Sync(), api.OK)
	if p := plate(c); p[1] != x || p[0] != noughts {
		t.Error("both have one plate")
	}
	want(t, "Crash", c.Crash([]bool{true}), api.OK)
	reads(t, c, 0, y)
	reads(t, c, 1, x)
	reads(t, d, 0, z)
	reads(t, d, 1, y)
	if d.Ops() == c.Ops() {
		t.Error("both have one count of acts")
	}
}

func TestACopyIsInAllJustSo(t *testing.T) {
	d := made(t, 5)
	write(t, d, 3, x)
	want(t, "Arm", d.Arm(2), api.OK)
	want(t, "Fail", d.Fail(1), api.OK)
	c := d.Copy()
	for _, e := range []*disk.Disk{c.Copy(), c, d} {
		if e.Len() != 5 || e.Ops() != 1 || e.Dead() {
			t.Errorf("Len %d, Ops %d, Dead %v", e.Len(), e.Ops(), e.Dead())
		}
		pends(t, e, 3)
		reads(t, e, 3, x)
		want(t, "Sync", e.Sync(), api.ErrIo)
		write(t, e, 2, y)
		write(t, e, 2, z)
		want(t, "Write", e.Write(2, x), api.ErrDead)
		f := e.Copy()
		if !f.Dead() || f.Ops() != 4 || f.Len() != 5 {
			t.Errorf("a copy of a dead one: Dead %v, Ops %d, Len %d", f.Dead(), f.Ops(), f.Len())
		}
		pends(t, f, 3, 2)
		want(t, "Crash", f.Crash([]bool{false, true}), api.OK)
		reads(t, f, 2, z)
		reads(t, f, 3, noughts)
		if !e.Dead() {
			t.Error("a copy's crash has brought power")
		}
	}
}

// R4

func TestNil(t *testing.T) {
	var d *disk.Disk
	for _, i := range []int{-1, 0, 1, math.MaxInt, math.MinInt} {
		refused(t, d, i, api.ErrNil)
		want(t, "Write", d.Write(i, x), api.ErrNil)
		want(t, "Arm", d.Arm(i), api.ErrNil)
		want(t, "Fail", d.Fail(i), api.ErrNil)
	}
	want(t, "Sync", d.Sync(), api.ErrNil)
	want(t, "Crash", d.Crash(nil), api.ErrNil)
	want(t, "Crash", d.Crash([]bool{true}), api.ErrNil)
	if d.Len() != 0 || d.Pending() != nil || d.Dead() || d.Ops() != 0 || d.Copy() != nil {
		t.Error("a nil disk tells something")
	}
}

// P2.7

// walked is how many sectors a disk has that is walked: more than a buffer holds, and few enough that they come again.
const walked = 11

// model is a disk as the chapter's words define it: what was written, in order, and what of that is on the plate.
type model struct {
	plate, shown [walked]api.Block
	order        []int
	fuse, flaw   int
	dead         bool
	ops          int
}

func newModel() *model {
	return &model{fuse: -1, flaw: -1}
}

// settle puts what a sector shows on the plate.
func (m *model) settle(i int) {
	m.plate[i] = m.shown[i]
	m.order = slices.DeleteFunc(m.order, func(k int) bool { return k == i })
}

func (m *model) act(changes bool, do func()) api.Errno {
	if m.dead {
		return api.ErrDead
	}
	flaw := m.flaw
	m.flaw = max(flaw-1, -1)
	switch {
	case changes && m.fuse == 0:
		m.dead = true
		return api.ErrDead
	case flaw == 0:
		return api.ErrIo
	case changes:
		m.fuse = max(m.fuse-1, -1)
	}
	m.ops++
	do()
	return api.OK
}

func (m *model) write(i int, b api.Block) api.Errno {
	return m.act(true, func() {
		if !slices.Contains(m.order, i) {
			if len(m.order) == 8 {
				m.settle(m.order[0])
			}
			m.order = append(m.order, i)
		}
		m.shown[i] = b
	})
}

func (m *model) sync() api.Errno {
	return m.act(true, func() {
		m.plate, m.order = m.shown, nil
	})
}

func (m *model) read(i int) (b api.Block, err api.Errno) {
	err = m.act(false, func() { b = m.shown[i] })
	return b, err
}

func (m *model) set(at *int, n int) api.Errno {
	if m.dead {
		return api.ErrDead
	}
	*at = max(n, -1)
	return api.OK
}

func (m *model) crash(keep []bool) {
	for place, i := range slices.Clone(m.order) {
		if place < len(keep) && keep[place] {
			m.settle(i)
		}
	}
	m.shown, m.order = m.plate, nil
	m.fuse, m.flaw, m.dead = -1, -1, false
}

// dice is a row of numbers that is the same each time.
type dice uint64

func (d *dice) roll(n int) int {
	*d = *d*6364136223846793005 + 1442695040888963407
	return int(uint64(*d) >> 33 % uint64(n))
}

func (d *dice) keep() []bool {
	keep := make([]bool, d.roll(11))
	for i := range keep {
		keep[i] = d.roll(2) == 1
	}
	return keep
}

// step does something to both, and tells what the disk answered, and whether the model did, too.
func step(roll *dice, d *disk.Disk, m *model) (api.Errno, bool) {
	i, n := roll.roll(walked), roll.roll(14)-1
	b := block(roll.roll(60000))
	var got, wanted api.Errno
	switch kind := roll.roll(40); {
	case kind < 20:
		got, wanted = d.Write(i, b), m.write(i, b)
	case kind < 32:
		at, err := d.Read(i)
		ought, e := m.read(i)
		return err, err == e && at == ought
	case kind < 34:
		got, wanted = d.Sync(), m.sync()
	case kind < 35:
		got, wanted = d.Arm(n), m.set(&m.fuse, n)
	case kind < 37:
		got, wanted = d.Fail(n), m.set(&m.flaw, n)
	case kind < 38:
		keep := roll.keep()
		m.crash(keep)
		got = d.Crash(keep)
	default:
		got, wanted = d.Write(walked, b), api.ErrArg
		if m.dead {
			wanted = api.ErrDead
		}
	}
	return got, got == wanted
}

// walk does so many things to a disk and its model, and hands both over behind each one.
func walk(t *testing.T, seed, steps int, each func(roll *dice, d *disk.Disk, m *model)) {
	t.Helper()
	roll := dice(seed)
	d, m := made(t, walked), newModel()
	for n := range steps {
		was, held := shown(d), plate(d)
		err, ok := step(&roll, d, m)
		if !ok {
			t.Fatalf("walk %d, step %d: another answer", seed, n)
		}
		if err != api.OK && (!slices.Equal(was, shown(d)) || !slices.Equal(held, plate(d))) {
			t.Fatalf("walk %d, step %d: what has failed has changed something", seed, n)
		}
		each(&roll, d, m)
	}
}

func TestADiskIsAsTheWordsSay(t *testing.T) {
	for seed := range 60 {
		walk(t, seed, 300, func(_ *dice, d *disk.Disk, m *model) {
			if !slices.Equal(d.Pending(), m.order) || d.Dead() != m.dead || d.Ops() != m.ops || d.Len() != walked {
				t.Fatalf("walk %d: Pending %v, Dead %v, Ops %d; not %v, %v, %d", seed, d.Pending(), d.Dead(), d.Ops(), m.order, m.dead, m.ops)
			}
			if !slices.Equal(shown(d), m.shown[:]) || !slices.Equal(plate(d), m.plate[:]) {
				t.Fatalf("walk %d: the disk shows, or holds, something else", seed)
			}
		})
	}
}

func TestBehindASyncNothingIsLost(t *testing.T) {
	for seed := range 30 {
		walk(t, seed, 200, func(roll *dice, d *disk.Disk, _ *model) {
			c := d.Copy()
			if c.Sync() != api.OK {
				return
			}
			if !slices.Equal(behind(c, roll.keep()...), shown(d)) {
				t.Fatalf("walk %d: something is lost", seed)
			}
		})
	}
}

func TestBehindACrashASectorShowsWhatItShowedOrThePlateHeld(t *testing.T) {
	for seed := range 30 {
		walk(t, seed, 200, func(roll *dice, d *disk.Disk, _ *model) {
			was, held, keep := shown(d), plate(d), roll.keep()
			for i, b := range behind(d, keep...) {
				place := slices.Index(d.Pending(), i)
				kept := place >= 0 && place < len(keep) && keep[place]
				if kept && b != was[i] || !kept && b != held[i] {
					t.Fatalf("walk %d: sector %d shows something else", seed, i)
				}
			}
		})
	}
}

func TestWhatWentDownStays(t *testing.T) {
	d := made(t, 20)
	for i := range 12 {
		write(t, d, i, block(i))
	}
	for range 3 {
		want(t, "Crash", d.Crash([]bool{false, true}), api.OK)
		for i := range 4 {
			reads(t, d, i, block(i))
		}
		reads(t, d, 5, block(5))
		reads(t, d, 4, noughts)
		write(t, d, 0, z)
		write(t, d, 5, z)
		killed(t, d)
		want(t, "Crash", d.Crash(nil), api.OK)
	}
}

func TestCopiesThatAreAskedTheSameAnswerTheSame(t *testing.T) {
	for seed := range 20 {
		roll := dice(seed)
		d, m := made(t, walked), newModel()
		for range 100 {
			step(&roll, d, m)
		}
		// Each copy is held against a model of its own that has gone the same way.
		for range 3 {
			c, again := d.Copy(), *m
			again.order = slices.Clone(m.order)
			for next, n := roll, 0; n < 200; n++ {
				if _, ok := step(&next, c, &again); !ok || !slices.Equal(c.Pending(), again.order) || c.Ops() != again.ops || c.Dead() != again.dead {
					t.Fatalf("walk %d: a copy answers something else at %d", seed, n)
				}
			}
			if !slices.Equal(shown(c), again.shown[:]) || !slices.Equal(plate(c), again.plate[:]) {
				t.Fatalf("walk %d: a copy shows something else", seed)
			}
		}
		if !slices.Equal(shown(d), m.shown[:]) || !slices.Equal(d.Pending(), m.order) || d.Ops() != m.ops {
			t.Fatalf("walk %d: what was done to copies is done to the disk", seed)
		}
	}
}
