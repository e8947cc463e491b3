package fib_test

import (
	"bytes"
	"maps"
	"slices"
	"testing"

	"junctionbox/api"
	"junctionbox/arena"
	"junctionbox/fib"
)

// P10.6, and all that was promised besides, held against the chapter's words read once more.

// pending is a seek on its way: what the version told at which it began.
type pending struct {
	seek    api.Seek
	version uint64
	rows    model
}

// run is a fib and its second reading, step by step side by side.
type run struct {
	t        *testing.T
	d        *dice
	a        *arena.Arena
	f        *fib.Fib
	r        *reading
	now      model // what is published
	next     model // what an open batch has come to
	before   []int // what was taken when it began
	seeks    []pending
	met      map[api.Errno]int
	ended    int
	outlived int
}

func newRun(t *testing.T, d *dice, n int) *run {
	a := made(t, n)
	return &run{t: t, d: d, a: a, f: fibOf(t, a), r: &reading{a: copied(t, a)}, now: model{}, met: map[api.Errno]int{}}
}

func (u *run) step() {
	u.t.Helper()
	switch u.d.roll(20) {
	case 0, 1:
		was := taken(u.a)
		if u.same("Begin", u.f.Begin(), u.r.begin()) == api.OK {
			u.next, u.before = maps.Clone(u.now), was
		}
	case 2, 3:
		u.publish()
	case 4:
		if u.d.roll(2) == 0 && u.same("Abort", u.f.Abort(), u.r.abort(u.t)) == api.OK && !slices.Equal(taken(u.a), u.before) {
			u.t.Fatalf("behind an Abort %v are taken, and ahead of the batch %v", taken(u.a), u.before)
		}
	case 5, 6, 7, 8:
		u.seek()
	case 9, 10, 11, 12:
		of := u.d.prefix()
		if list := u.next.rows(); len(list) > 0 && u.d.roll(4) > 0 {
			of = list[u.d.roll(len(list))].Prefix
		}
		if u.same("Drop", u.f.Drop(of), u.r.drop(u.t, of)) == api.OK {
			delete(u.next, name(of.Addr, of.Bits))
		}
	default:
		of, hop := u.d.prefix(), 1+u.d.roll(255)
		if u.d.roll(20) == 0 {
			hop = 256 * u.d.roll(2)
		}
		if u.same("Put", u.f.Put(of, hop), u.r.put(u.t, of, hop)) == api.OK {
			u.next[name(of.Addr, of.Bits)] = hop
		}
	}
	u.look()
}

// same is the error that both have answered.
func (u *run) same(what string, got, want api.Errno) api.Errno {
	u.t.Helper()
	if got != want {
		u.t.Fatalf("%s: %d, not %d", what, got, want)
	}
	u.met[got]++
	return got
}

// publish is by an epoch and of a version that may be wrong. Seeks that have outlived a version by then end ahead of it.
func (u *run) publish() {
	u.t.Helper()
	cell := u.a.Root()
	epoch, version := u.a.Fence()+uint64(u.d.roll(3))-1, cell.Version+1
	if u.a.Fence() == 0 {
		epoch = uint64(u.d.roll(2))
	}
	if u.d.roll(5) == 0 {
		version = cell.Version + uint64(u.d.roll(4))
	}
	if u.d.roll(6) == 0 {
		to := u.a.Fence() + 1
		does(u.t, "Raise", u.a.Raise(to), u.r.a.Raise(to))
	}
	u.seeksEnd(func(s pending) bool { return s.version < cell.Version })
	if u.same("Publish", u.f.Publish(epoch, version), u.r.publish(u.t, epoch, version)) == api.OK {
		u.now = u.next
	}
}

// seek begins one, and brings some on their way by some steps.
func (u *run) seek() {
	u.t.Helper()
	s, version, err := fib.Seek(u.a, u.d.addr())
	does(u.t, "Seek", err)
	if version != u.a.Root().Version {
		u.t.Fatalf("Seek tells the version %d of %d", version, u.a.Root().Version)
	}
	u.seeks = append(u.seeks, pending{s, version, maps.Clone(u.now)})
	for i := range u.seeks {
		for range u.d.roll(3) {
			u.seeks[i].seek = nextOf(u.t, u.a, u.seeks[i].seek)
		}
	}
	if u.d.roll(4) == 0 {
		u.seeksEnd(func(pending) bool { return u.d.roll(4) == 0 })
	}
}

func (u *run) seeksEnd(ask func(s pending) bool) {
	u.t.Helper()
	u.seeks = slices.DeleteFunc(u.seeks, func(s pending) bool {
		if !ask(s) {
			return false
		}
		if u.ended++; s.version < u.a.Root().Version && !s.seek.Over {
			u.outlived++
		}
		end(u.t, u.a, s.seek, s.rows)
		return true
	})
}

// look asks for all that is told, and for who has which block.
func (u *run) look() {
	u.t.Helper()
	if !bytes.Equal(u.a.Encode(), u.r.a.Encode()) {
		u.t.Fatal("the arenas are not the same")
	}
	one, two := u.f.Roots()
	wantOne, wantTwo := u.r.roots()
	if one != wantOne || two != wantTwo || u.f.Open() != u.r.open || !slices.Equal(u.f.Waits(), u.r.waiting) {
		u.t.Fatalf("Roots: %d, %d, not %d, %d; Open: %t, not %t; Waits: %v, not %v", one, two, wantOne, wantTwo, u.f.Open(), u.r.open, u.f.Waits(), u.r.waiting)
	}
	if rows, err := fib.Rows(u.a); err != api.OK || !slices.Equal(rows, u.now.rows()) {
		u.t.Fatalf("Rows: %v, %d, not %v", rows, err, u.now.rows())
	}
	cell := u.a.Root()
	held := reach(u.t, u.a, cell.Four, cell.Six)
	all := append(slices.Concat(held, u.f.Waits()), less(reach(u.t, u.a, one, two), held)...)
	if slices.Sort(all); !slices.Equal(all, taken(u.a)) {
		u.t.Fatalf("taken are %v, and somebody has %v", taken(u.a), all)
	}
}

func TestManySteps(t *testing.T) {
	var d dice
	met, ended, outlived := map[api.Errno]int{}, 0, 0
	for _, words := range []int{64, 120, 250, 500, 1000, 2000, 4000, api.MaxWords} {
		u := newRun(t, &d, words)
		for range 900 {
			u.step()
		}
		for err, n := range u.met {
			met[err] += n
		}
		ended, outlived = ended+u.ended, outlived+u.outlived
	}
	for _, err := range []api.Errno{api.OK, api.ErrOpen, api.ErrClosed, api.ErrArg, api.ErrNone, api.ErrFull, api.ErrFence, api.ErrVersion} {
		if met[err] < 30 {
			t.Errorf("the error %d came only %d times", err, met[err])
		}
	}
	if ended < 300 || outlived < 30 {
		t.Errorf("only %d seeks ended, and %d were on their way when a later version was published", ended, outlived)
	}
}

// Whoever takes an arena over begins with nothing that waits, and goes on with what is published.
func TestAnArenaThatIsTakenOver(t *testing.T) {
	a := made(t, 2000)
	f := fibOf(t, a)
	published(t, a, f, p(), s())
	published(t, a, f, q())
	waiting := f.Waits()
	b := copied(t, a)
	g := fibOf(t, b)
	waits(t, g)
	published(t, b, g, r())
	published(t, b, g, another(r(), 9))
	tells(t, b, p(), q(), another(r(), 9), s())
	if got := less(waiting, taken(b)); len(waiting) == 0 || len(got) != 0 {
		t.Errorf("%v was given back, which did not wait", got)
	}
	waits(t, f, waiting...)
	tells(t, a, p(), q(), s())
}

// A full arena has room again when what waits is given back.
func TestRoomComesBack(t *testing.T) {
	a := made(t, 150)
	f := fibOf(t, a)
	published(t, a, f, p())
	for i := range 300 {
		published(t, a, f, another(p(), 1+i%255))
		tells(t, a, another(p(), 1+i%255))
		if got, want := len(taken(a)), 12; got != want {
			t.Fatalf("%d blocks are taken behind %d versions, not %d", got, i+2, want)
		}
	}
}
