package arena_test

import (
	"bytes"
	"math"
	"slices"
	"testing"

	"junctionbox/api"
	"junctionbox/arena"
)

// P6.6

// walk is an arena that goes along with its model, and what has been told of it.
type walk struct {
	t   *testing.T
	d   *dice
	a   *arena.Arena
	m   *model
	was struct{ version, fence uint64 }
}

// place is mostly that of a block, taken or free.
func (w *walk) place() int {
	blocks := slices.Concat(w.m.pieces(true), w.m.pieces(true), w.m.pieces(false))
	if len(blocks) == 0 || w.d.roll(8) == 0 {
		return w.d.roll(w.m.n+6) - 3
	}
	return blocks[w.d.roll(len(blocks))].Place
}

// root is a place for the root cell: mostly one that may be.
func (w *walk) root() int {
	if w.d.roll(3) == 0 {
		return 0
	}
	return w.place()
}

func (w *walk) epoch() uint64 {
	return w.m.fence + uint64(w.d.roll(5)) - uint64(w.d.roll(2))*min(w.m.fence, 2)
}

// step does one thing to both, and holds what they answer against each other.
func (w *walk) step() {
	w.t.Helper()
	switch w.d.roll(14) {
	case 0, 1, 2, 3:
		class := w.d.roll(8) - 1
		place, err := w.a.Alloc(class)
		if want, wantErr := w.m.alloc(class); place != want || err != wantErr {
			w.t.Fatalf("Alloc(%d): %d, %d; not %d, %d", class, place, err, want, wantErr)
		}
	case 4, 5, 6, 7:
		place := w.place()
		is(w.t, "Free", w.a.Free(place), w.m.free(place))
	case 8, 9, 10:
		place, i, x := w.place(), w.d.roll(34)-1, uint32(w.d.roll(math.MaxUint32))
		is(w.t, "Store", w.a.Store(place, i%5, x), w.m.store(place, i%5, x))
		y, err := w.a.Load(place, i)
		if want, wantErr := w.m.load(place, i); y != want || err != wantErr {
			w.t.Fatalf("Load(%d, %d): %d, %d; not %d, %d", place, i, y, err, want, wantErr)
		}
	case 11, 12:
		r := api.Root{Version: w.m.root.Version + uint64(w.d.roll(12))/4, Epoch: w.epoch(), Four: w.root(), Six: w.root()}
		if w.d.roll(4) > 0 {
			r.Version = w.m.root.Version + 1
		}
		err := w.a.Publish(r)
		is(w.t, "Publish", err, w.m.publish(r))
		if err == api.OK && r.Epoch < w.a.Fence() {
			w.t.Fatalf("published by %d, below the fence %d", r.Epoch, w.a.Fence())
		}
	case 13:
		epoch := w.epoch()
		is(w.t, "Raise", w.a.Raise(epoch), w.m.raise(epoch))
	}
}

// told fails a test, if something that follows does not hold.
func (w *walk) told() {
	w.t.Helper()
	same(w.t, w.a, w.m)
	if w.a.Root().Version < w.was.version || w.a.Fence() < w.was.fence {
		w.t.Fatalf("the Version, the fence were %v, and are %d, %d", w.was, w.a.Root().Version, w.a.Fence())
	}
	w.was.version, w.was.fence = w.a.Root().Version, w.a.Fence()
	parted(w.t, w.a, w.m.n)
}

// parted fails a test, if some word behind the head is of no block and not behind the edge, or of two.
func parted(t *testing.T, a *arena.Arena, n int) {
	t.Helper()
	owners := make([]int, n)
	for _, p := range slices.Concat(a.Blocks(), a.Spare()) {
		for i := p.Place - 1; i < p.Place+sizeOf(p.Class); i++ {
			owners[i]++
		}
	}
	for i := n - a.Left(); i < n; i++ {
		owners[i]++
	}
	for i, count := range owners {
		if want := min(i/16, 1); count != want {
			t.Fatalf("the word %d has %d owners", i, count)
		}
	}
}

func TestWalks(t *testing.T) {
	d := dice(6)
	for _, n := range []int{64, 65, 97, 150, 400} {
		for range 12 {
			w := walk{t: t, d: &d, a: made(t, n), m: newModel(n)}
			for range 250 {
				w.step()
				w.told()
			}
			sameWords(t, w.a, w.m)
		}
	}
}

// Whoever takes an arena over by its bytes goes on as the one before would have.
func TestWalksThatAreHandedOn(t *testing.T) {
	d := dice(7)
	for range 20 {
		w := walk{t: t, d: &d, a: made(t, 120), m: newModel(120)}
		for range 40 {
			for range 10 {
				w.step()
			}
			w.told()
			b, err := arena.Decode(w.a.Encode())
			if err != api.OK || !bytes.Equal(b.Encode(), w.a.Encode()) {
				t.Fatalf("Decode of Encode: %d", err)
			}
			w.a = b
		}
		w.told()
		sameWords(t, w.a, w.m)
	}
}

// What was stored is loaded till it is stored anew, whatever is done to other blocks.
func TestWhatWasStoredIsLoaded(t *testing.T) {
	d := dice(8)
	a := made(t, 600)
	kept := map[int]int{}
	for _, class := range []int{5, 0, 3, 1, 4, 2} {
		kept[got(t, a, class)] = class
	}
	value := func(place, i int) uint32 {
		return uint32(place)*1000003 + uint32(i)
	}
	for place, class := range kept {
		for i := range sizeOf(class) {
			is(t, "Store", a.Store(place, i, value(place, i)), api.OK)
		}
	}
	for range 3000 {
		if place, err := a.Alloc(d.roll(6)); err == api.OK {
			is(t, "Store", a.Store(place, 0, math.MaxUint32), api.OK)
		}
		if blocks := a.Blocks(); len(blocks) > 20 {
			p := blocks[d.roll(len(blocks))]
			if _, ok := kept[p.Place]; !ok {
				is(t, "Free", a.Free(p.Place), api.OK)
			}
		}
	}
	for place, class := range kept {
		for i := range sizeOf(class) {
			if x, err := a.Load(place, i); x != value(place, i) || err != api.OK {
				t.Errorf("Load(%d, %d): %d, %d", place, i, x, err)
			}
		}
	}
	parted(t, a, 600)
}

// The least and the greatest arena are filled with blocks of each class, emptied, and filled again.
func TestFilledAndEmptied(t *testing.T) {
	for _, n := range []int{64, 16384} {
		for class := range 6 {
			a := made(t, n)
			var places []int
			for {
				place, err := a.Alloc(class)
				if err != api.OK {
					is(t, "Alloc", err, api.ErrFull)
					break
				}
				places = append(places, place)
				is(t, "Store", a.Store(place, sizeOf(class)-1, 5), api.OK)
			}
			if want := (n - 16) / (sizeOf(class) + 1); len(places) != want {
				t.Errorf("%d blocks of the class %d in %d words, not %d", len(places), class, n, want)
			}
			for _, place := range places {
				is(t, "Free", a.Free(place), api.OK)
			}
			if len(a.Blocks()) != 0 || len(a.Spare()) != len(places) {
				t.Errorf("Blocks, Spare: %d, %d", len(a.Blocks()), len(a.Spare()))
			}
			for k := range places {
				if place := got(t, a, class); place != places[len(places)-1-k] {
					t.Fatalf("Alloc(%d): %d, not %d", class, place, places[len(places)-1-k])
				}
			}
			_, err := a.Alloc(class)
			is(t, "Alloc", err, api.ErrFull)
			parted(t, a, n)
		}
	}
}
