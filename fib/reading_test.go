package fib_test

import (
	"slices"
	"testing"

	"junctionbox/api"
	"junctionbox/arena"
	"junctionbox/trie"
)

// reading is the chapter's words read once more, with lists where the program has others, on an arena of its own.
type reading struct {
	a                       *arena.Arena
	open                    bool
	four, six               int
	began, retired, waiting []int
}

func (r *reading) begin() api.Errno {
	if r.open {
		return api.ErrOpen
	}
	cell := r.a.Root()
	r.open, r.four, r.six, r.began, r.retired = true, cell.Four, cell.Six, taken(r.a), nil
	return api.OK
}

func (r *reading) put(t *testing.T, p api.Prefix, hop int) api.Errno {
	t.Helper()
	return r.change(t, p, func(root int) (int, []int, api.Errno) {
		return trie.Insert(r.a, root, api.Row{Prefix: p, Hop: hop})
	})
}

func (r *reading) drop(t *testing.T, p api.Prefix) api.Errno {
	t.Helper()
	return r.change(t, p, func(root int) (int, []int, api.Errno) {
		return trie.Delete(r.a, root, p)
	})
}

func (r *reading) change(t *testing.T, p api.Prefix, do func(root int) (int, []int, api.Errno)) api.Errno {
	t.Helper()
	if !r.open {
		return api.ErrClosed
	}
	root := &r.four
	if p.Addr.Version == 6 {
		root = &r.six
	}
	next, retired, err := do(*root)
	if err != api.OK {
		return err
	}
	*root = next
	for _, place := range retired {
		if slices.Contains(r.began, place) {
			r.retired = append(r.retired, place)
		} else {
			r.free(t, place)
		}
	}
	return api.OK
}

func (r *reading) publish(t *testing.T, epoch, version uint64) api.Errno {
	t.Helper()
	if !r.open {
		return api.ErrClosed
	}
	if err := r.a.Publish(api.Root{Version: version, Epoch: epoch, Four: r.four, Six: r.six}); err != api.OK {
		return err
	}
	for _, place := range r.waiting {
		r.free(t, place)
	}
	r.waiting, r.open = r.retired, false
	return api.OK
}

func (r *reading) abort(t *testing.T) api.Errno {
	t.Helper()
	if !r.open {
		return api.ErrClosed
	}
	for _, place := range less(taken(r.a), r.began) {
		r.free(t, place)
	}
	r.open = false
	return api.OK
}

func (r *reading) free(t *testing.T, place int) {
	t.Helper()
	does(t, "Free", r.a.Free(place))
}

func (r *reading) roots() (int, int) {
	if !r.open {
		cell := r.a.Root()
		return cell.Four, cell.Six
	}
	return r.four, r.six
}
