package lease_test

import (
	"iter"
	"math"
	"testing"

	"junctionbox/api"
	"junctionbox/lease"
)

// call is what can happen to a lease.
type call func(api.Lease) (api.Lease, api.Errno)

// byStamp is Granted of that stamp.
func byStamp(stamp uint64) call {
	return func(l api.Lease) (api.Lease, api.Errno) {
		return lease.Granted(l, stamp)
	}
}

// times are numbers at the edges, and such as are no times.
func times() []uint64 {
	return []uint64{
		0, 1, 7, 8, 9, 12, 13, 20, api.MaxNow / 2,
		top - 12, top - 1, top, top + 1, top + 8, top + 12, top + 13, api.MaxNow - 1, api.MaxNow,
		api.MaxNow + 1, 1 << 63, math.MaxUint64,
	}
}

// leases are all that have these numbers.
func leases(l []uint64) iter.Seq[api.Lease] {
	return func(yield func(api.Lease) bool) {
		for _, now := range l {
			for _, held := range l {
				for _, promised := range l {
					if !yield(api.Lease{Now: now, Held: held, Promised: promised}) {
						return
					}
				}
			}
		}
	}
}

// reading is what the chapter asks for: an error, or a lease.
type reading struct {
	why  api.Errno
	want api.Lease
}

// why is the error of a lease to which nothing can happen.
func why(l api.Lease) api.Errno {
	switch {
	case greater(greater(l.Now, l.Held), l.Promised) >= 4611686018427387905:
		return api.ErrLease
	case l.Now >= 4611686018427387805:
		return api.ErrFull
	}
	return api.OK
}

func greater(x, y uint64) uint64 {
	if x > y {
		return x
	}
	return y
}

func agrees(t *testing.T, what string, c call, l api.Lease, r reading) {
	t.Helper()
	if r.why != api.OK {
		refuses(t, what, c, l, r.why)
		return
	}
	becomes(t, what, c, l, r.want)
}

func becomes(t *testing.T, what string, c call, l, want api.Lease) {
	t.Helper()
	if got, err := c(l); got != want || err != api.OK {
		t.Errorf("%s of %v: %v, %d, not %v", what, l, got, err, want)
	}
}

// refuses asks also that nothing is told beside the error.
func refuses(t *testing.T, what string, c call, l api.Lease, want api.Errno) {
	t.Helper()
	if got, err := c(l); got != (api.Lease{}) || err != want {
		t.Errorf("%s of %v: %v, %d, not %d", what, l, got, err, want)
	}
}

func refusesGranted(t *testing.T, l api.Lease, stamp uint64, want api.Errno) {
	t.Helper()
	if got, err := lease.Granted(l, stamp); got != (api.Lease{}) || err != want {
		t.Errorf("Granted of %v, %d: %v, %d, not %d", l, stamp, got, err, want)
	}
}

func holds(t *testing.T, l api.Lease, want bool) {
	t.Helper()
	if got := lease.Holds(l); got != want {
		t.Errorf("Holds(%v): %t", l, got)
	}
}

func free(t *testing.T, l api.Lease, want bool) {
	t.Helper()
	if got := lease.Free(l); got != want {
		t.Errorf("Free(%v): %t", l, got)
	}
}

// done fails a test at once, if something is refused.
func done(t *testing.T, what string, l api.Lease, err api.Errno) api.Lease {
	t.Helper()
	if err != api.OK {
		t.Fatalf("%s: %d", what, err)
	}
	return l
}

func ticked(t *testing.T, l api.Lease, count int) api.Lease {
	t.Helper()
	for range count {
		next, err := lease.Tick(l)
		l = done(t, "Tick", next, err)
	}
	return l
}

func grant(t *testing.T, l api.Lease) api.Lease {
	t.Helper()
	next, err := lease.Grant(l)
	return done(t, "Grant", next, err)
}

func granted(t *testing.T, l api.Lease, stamp uint64) api.Lease {
	t.Helper()
	next, err := lease.Granted(l, stamp)
	return done(t, "Granted", next, err)
}

// dice are numbers that look thrown, the same ones each time.
type dice uint64

func (d *dice) roll(n int) int {
	*d = *d*6364136223846793005 + 1442695040888963407
	return int(uint64(*d) >> 33 % uint64(n))
}
