package lease_test

import (
	"math"
	"testing"

	"junctionbox/api"
	"junctionbox/lease"
)

// top is the last Now to which something can happen.
const top = api.MaxNow - 100

// The chapter's examples.

func TestExamples(t *testing.T) {
	one := granted(t, api.Lease{}, 0)
	holds(t, one, true)
	holds(t, ticked(t, one, 7), true)
	holds(t, ticked(t, one, 8), false)
	two := grant(t, api.Lease{})
	free(t, two, false)
	free(t, ticked(t, two, 11), false)
	free(t, ticked(t, two, 12), true)
	refusesGranted(t, api.Lease{}, 1, api.ErrArg)
	refuses(t, "Tick", lease.Tick, api.Lease{Now: api.MaxNow}, api.ErrFull)
}

// P13.1

func TestCheck(t *testing.T) {
	for l := range leases(times()) {
		want := api.OK
		for _, x := range [3]uint64{l.Now, l.Held, l.Promised} {
			if x > 4611686018427387904 {
				want = api.ErrLease
			}
		}
		if err := lease.Check(l); err != want {
			t.Fatalf("Check(%v): %d, not %d", l, err, want)
		}
	}
}

func TestHolds(t *testing.T) {
	for _, q := range []struct {
		now, held uint64
		want      bool
	}{
		{0, 0, false}, {0, 1, true}, {1, 1, false}, {1, 0, false}, {7, 8, true}, {8, 8, false}, {9, 8, false},
		{0, api.MaxNow, true}, {api.MaxNow - 1, api.MaxNow, true}, {api.MaxNow, api.MaxNow, false}, {api.MaxNow, 0, false}, {api.MaxNow, api.MaxNow - 1, false},
	} {
		for _, promised := range []uint64{0, q.now, q.held, api.MaxNow} {
			holds(t, api.Lease{Now: q.now, Held: q.held, Promised: promised}, q.want)
		}
	}
}

func TestFree(t *testing.T) {
	for _, q := range []struct {
		now, promised uint64
		want          bool
	}{
		{0, 0, true}, {0, 1, false}, {1, 1, true}, {1, 0, true}, {11, 12, false}, {12, 12, true}, {13, 12, true},
		{0, api.MaxNow, false}, {api.MaxNow - 1, api.MaxNow, false}, {api.MaxNow, api.MaxNow, true}, {api.MaxNow, 0, true}, {api.MaxNow, api.MaxNow - 1, true},
	} {
		for _, held := range []uint64{0, q.now, q.promised, api.MaxNow} {
			free(t, api.Lease{Now: q.now, Held: held, Promised: q.promised}, q.want)
		}
	}
}

func TestHoldsAndFreeOfNoLease(t *testing.T) {
	for _, wrong := range []uint64{api.MaxNow + 1, 1 << 63, math.MaxUint64} {
		for _, l := range []api.Lease{
			{Held: wrong}, {Now: 5, Held: wrong}, {Held: 8, Promised: wrong}, {Now: wrong, Held: math.MaxUint64}, {Now: wrong - 1, Held: wrong},
			{Now: wrong}, {Now: wrong, Promised: 5}, {Now: wrong, Promised: wrong}, {Held: wrong, Promised: wrong},
		} {
			holds(t, l, false)
			free(t, l, false)
		}
	}
}

// P13.2

func TestTick(t *testing.T) {
	for _, now := range []uint64{0, 1, 7, 1 << 32, top - 1, top} {
		for _, other := range []uint64{0, 1, now, now + 1, now + 2, api.MaxNow} {
			l := api.Lease{Now: now, Held: other, Promised: other / 2}
			want := api.Lease{Now: now + 1, Held: other, Promised: other / 2}
			becomes(t, "Tick", lease.Tick, l, want)
		}
	}
}

func TestGrant(t *testing.T) {
	for _, q := range [][3]uint64{
		{0, 0, 12}, {0, 11, 12}, {0, 12, 12}, {0, 13, 13}, {0, api.MaxNow, api.MaxNow},
		{5, 0, 17}, {5, 4, 17}, {5, 5, 17}, {5, 16, 17}, {5, 17, 17}, {5, 18, 18}, {5, 40, 40},
		{top, 0, top + 12}, {top, top + 11, top + 12}, {top, top + 13, top + 13}, {top, api.MaxNow, api.MaxNow},
	} {
		for _, held := range []uint64{0, q[0], q[0] + 1, api.MaxNow} {
			l := api.Lease{Now: q[0], Held: held, Promised: q[1]}
			want := api.Lease{Now: q[0], Held: held, Promised: q[2]}
			becomes(t, "Grant", lease.Grant, l, want)
			becomes(t, "Grant once more", lease.Grant, want, want)
		}
	}
}

func TestGranted(t *testing.T) {
	for _, q := range [][4]uint64{
		{0, 0, 0, 8}, {0, 0, 7, 8}, {0, 0, 8, 8}, {0, 0, 9, 9}, {0, 0, api.MaxNow, api.MaxNow},
		{5, 0, 0, 8}, {5, 3, 0, 11}, {5, 5, 0, 13}, {5, 5, 12, 13}, {5, 5, 13, 13}, {5, 5, 14, 14}, {5, 0, 13, 13},
		{100, 0, 0, 8}, {100, 3, 40, 40}, {100, 92, 0, 100}, {100, 93, 99, 101},
		{top, 0, 0, 8}, {top, top, 0, top + 8}, {top, top, top + 7, top + 8}, {top, top - 1, top + 8, top + 8}, {top, top, api.MaxNow, api.MaxNow},
	} {
		for _, promised := range []uint64{0, q[0], q[0] + 1, api.MaxNow} {
			l := api.Lease{Now: q[0], Held: q[2], Promised: promised}
			want := api.Lease{Now: q[0], Held: q[3], Promised: promised}
			becomes(t, "Granted", byStamp(q[1]), l, want)
			becomes(t, "Granted once more", byStamp(q[1]), want, want)
		}
	}
}

func TestNothingHappensToNoLease(t *testing.T) {
	for _, wrong := range []uint64{api.MaxNow + 1, 1 << 63, math.MaxUint64} {
		for _, l := range []api.Lease{
			{Now: wrong}, {Held: wrong}, {Promised: wrong}, {Now: wrong, Held: wrong, Promised: wrong},
			{Now: top, Held: wrong}, {Now: top, Promised: wrong}, {Now: top + 1, Held: wrong}, {Now: top + 1, Promised: wrong}, {Now: api.MaxNow, Held: wrong},
		} {
			refuses(t, "Tick", lease.Tick, l, api.ErrLease)
			refuses(t, "Grant", lease.Grant, l, api.ErrLease)
			for _, stamp := range []uint64{0, 1, l.Now, l.Now + 1, api.MaxNow, math.MaxUint64} {
				refusesGranted(t, l, stamp, api.ErrLease)
			}
		}
	}
}

func TestNothingHappensAtTheEndOfTime(t *testing.T) {
	for _, now := range []uint64{top + 1, top + 2, api.MaxNow - 12, api.MaxNow - 1, api.MaxNow} {
		for _, other := range []uint64{0, now, api.MaxNow} {
			l := api.Lease{Now: now, Held: other, Promised: other}
			refuses(t, "Tick", lease.Tick, l, api.ErrFull)
			refuses(t, "Grant", lease.Grant, l, api.ErrFull)
			// It is named ahead of ErrArg.
			for _, stamp := range []uint64{0, now - 1, now, now + 1, api.MaxNow, math.MaxUint64} {
				refusesGranted(t, l, stamp, api.ErrFull)
			}
		}
	}
}

func TestGrantedOfWhatIsToCome(t *testing.T) {
	for _, now := range []uint64{0, 1, 7, 1 << 40, top} {
		for _, other := range []uint64{0, now + 1, api.MaxNow} {
			l := api.Lease{Now: now, Held: other, Promised: other}
			for _, stamp := range []uint64{now + 1, now + 2, now + 8, api.MaxNow, api.MaxNow + 1, 1 << 63, math.MaxUint64 - 8, math.MaxUint64 - 7, math.MaxUint64} {
				refusesGranted(t, l, stamp, api.ErrArg)
			}
		}
	}
}

// Each mix of times at the edges is held against the chapter's words, read once more.
func TestEachMix(t *testing.T) {
	for l := range leases(times()) {
		agrees(t, "Tick", lease.Tick, l, reading{why: why(l), want: api.Lease{Now: l.Now + 1, Held: l.Held, Promised: l.Promised}})
		agrees(t, "Grant", lease.Grant, l, reading{why: why(l), want: api.Lease{Now: l.Now, Held: l.Held, Promised: greater(l.Promised, l.Now+12)}})
		for _, stamp := range times() {
			r := reading{why: why(l), want: api.Lease{Now: l.Now, Held: greater(l.Held, stamp+8), Promised: l.Promised}}
			if r.why == api.OK && stamp > l.Now {
				r.why = api.ErrArg
			}
			agrees(t, "Granted", byStamp(stamp), l, r)
		}
	}
}

// What one lease tells hangs on it alone, and not on what was done to others.
func TestLeasesGoByThemselves(t *testing.T) {
	l := api.Lease{Now: 5, Held: 6, Promised: 7}
	for range 3 {
		becomes(t, "Tick", lease.Tick, l, api.Lease{Now: 6, Held: 6, Promised: 7})
		becomes(t, "Grant", lease.Grant, l, api.Lease{Now: 5, Held: 6, Promised: 17})
		becomes(t, "Granted", byStamp(5), l, api.Lease{Now: 5, Held: 13, Promised: 7})
		refusesGranted(t, l, 6, api.ErrArg)
	}
	if l != (api.Lease{Now: 5, Held: 6, Promised: 7}) {
		t.Errorf("it was changed: %v", l)
	}
}
