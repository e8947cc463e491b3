package arena_test

import (
	"math"
	"slices"
	"testing"

	"junctionbox/api"
	"junctionbox/arena"
)

// P6.1

func TestNew(t *testing.T) {
	for _, n := range []int{64, 65, 100, 1000, 16383, 16384} {
		a := made(t, n)
		same(t, a, newModel(n))
		if a.Left() != n-16 || a.Blocks() != nil || a.Spare() != nil || a.Root() != (api.Root{}) || a.Fence() != 0 {
			t.Errorf("New(%d): %d left, %v, %v, %v, %d", n, a.Left(), a.Blocks(), a.Spare(), a.Root(), a.Fence())
		}
	}
}

func TestNewOfNoSize(t *testing.T) {
	for _, n := range []int{63, 16, 1, 0, -1, -64, 16385, 1 << 20, 1<<32 + 64, 1 << 62, math.MaxInt, math.MinInt} {
		if a, err := arena.New(n); a != nil || err != api.ErrArg {
			t.Errorf("New(%d): %v, %d", n, a, err)
		}
	}
}

// The chapter's examples.

func TestExamples(t *testing.T) {
	a := made(t, 64)
	if x, y := got(t, a, 0), got(t, a, 2); x != 17 || y != 19 || a.Left() != 41 {
		t.Errorf("Alloc(0), Alloc(2); Left: %d, %d; %d", x, y, a.Left())
	}
	is(t, "Free(17)", a.Free(17), api.OK)
	if x, y := got(t, a, 0), got(t, a, 5); x != 17 || y != 24 {
		t.Errorf("Alloc(0); Alloc(5): %d; %d", x, y)
	}
	if x, err := a.Alloc(3); x != 0 || err != api.ErrFull {
		t.Errorf("Alloc(3): %d, %d", x, err)
	}
	if x := got(t, a, 0); x != 57 {
		t.Errorf("Alloc(0): %d", x)
	}
	is(t, "Store(19, 3, 7)", a.Store(19, 3, 7), api.OK)
	if x, err := a.Load(19, 3); x != 7 || err != api.OK {
		t.Errorf("Load(19, 3): %d, %d", x, err)
	}
	if x, err := a.Load(19, 4); x != 0 || err != api.ErrArg {
		t.Errorf("Load(19, 4): %d, %d", x, err)
	}
	if x, err := a.Load(18, 0); x != 0 || err != api.ErrNone {
		t.Errorf("Load(18, 0): %d, %d", x, err)
	}
	is(t, "Raise(2)", a.Raise(2), api.OK)
	is(t, "Publish(1, 1)", a.Publish(api.Root{Version: 1, Epoch: 1}), api.ErrFence)
	is(t, "Publish(2, 2)", a.Publish(api.Root{Version: 2, Epoch: 2}), api.ErrVersion)
	is(t, "Publish(1, 2, Four 19)", a.Publish(api.Root{Version: 1, Epoch: 2, Four: 19}), api.OK)
	is(t, "Free(19)", a.Free(19), api.ErrArg)
	is(t, "Raise(1)", a.Raise(1), api.ErrFence)
}

// P6.2

func TestAllocOfEachClass(t *testing.T) {
	for class := range 6 {
		a, m := made(t, 64), newModel(64)
		place := got(t, a, class)
		if want, _ := m.alloc(class); place != want || place != 17 || a.Left() != 64-17-sizeOf(class) {
			t.Errorf("Alloc(%d): %d, %d left", class, place, a.Left())
		}
		if c, ok := a.Class(place); c != class || !ok {
			t.Errorf("Class(%d): %d, %t", place, c, ok)
		}
		same(t, a, m)
		sameWords(t, a, m)
	}
}

func TestAllocOfNoClass(t *testing.T) {
	a, m := full(t)
	for _, class := range []int{-1, -2, 6, 7, 8, 31, 32, 63, 64, 256, 1 << 32, math.MaxInt, math.MinInt} {
		if place, err := a.Alloc(class); place != 0 || err != api.ErrArg {
			t.Errorf("Alloc(%d): %d, %d", class, place, err)
		}
	}
	same(t, a, m)
}

// A block of each class is taken with just the words that it needs left, with one fewer, and with none.
func TestAllocAtTheEnd(t *testing.T) {
	for class := range 6 {
		for _, fewer := range []int{0, 1} {
			a := made(t, 16384)
			m := newModel(16384)
			for a.Left() > sizeOf(class)+1-fewer {
				// Blocks of the class 0 take two words each, of the class 1 three: together they leave whatever is asked.
				next := 0
				if (a.Left()-sizeOf(class)-1+fewer)%2 == 1 {
					next = 1
				}
				got(t, a, next)
				m.alloc(next)
			}
			if a.Left() != sizeOf(class)+1-fewer {
				t.Fatalf("%d words are left", a.Left())
			}
			place, err := a.Alloc(class)
			want, wantErr := m.alloc(class)
			if place != want || err != wantErr || (err == api.OK) != (fewer == 0) {
				t.Errorf("Alloc(%d) with %d words: %d, %d; not %d, %d", class, sizeOf(class)+1-fewer, place, err, want, wantErr)
			}
			same(t, a, m)
		}
	}
}

func TestAllocOfAFullArena(t *testing.T) {
	a := made(t, 64)
	for range 24 {
		got(t, a, 0)
	}
	if a.Left() != 0 || len(a.Blocks()) != 24 {
		t.Errorf("%d words are left, %d blocks", a.Left(), len(a.Blocks()))
	}
	for class := range 6 {
		if place, err := a.Alloc(class); place != 0 || err != api.ErrFull {
			t.Errorf("Alloc(%d): %d, %d", class, place, err)
		}
	}
	// A free block of one class is nothing to another one.
	is(t, "Free(63)", a.Free(63), api.OK)
	for class := 1; class < 6; class++ {
		if place, err := a.Alloc(class); place != 0 || err != api.ErrFull {
			t.Errorf("Alloc(%d): %d, %d", class, place, err)
		}
	}
	if place := got(t, a, 0); place != 63 {
		t.Errorf("Alloc(0): %d", place)
	}
	if x, err := a.Load(63, 0); x != 0 || err != api.OK {
		t.Errorf("Load(63, 0): %d, %d", x, err)
	}
}

// What was given back last is taken first, whatever room there is behind the edge.
func TestGivenBackAndTakenAgain(t *testing.T) {
	for class := range 6 {
		a, m := made(t, 400), newModel(400)
		var places []int
		for range 4 {
			places = append(places, got(t, a, class))
			m.alloc(class)
			is(t, "Store", a.Store(places[0], 0, 9), m.store(places[0], 0, 9))
		}
		for _, k := range []int{2, 0, 3} {
			is(t, "Free", a.Free(places[k]), m.free(places[k]))
			same(t, a, m)
			sameWords(t, a, m)
		}
		for _, k := range []int{3, 0, 2} {
			if place := got(t, a, class); place != places[k] {
				t.Errorf("Alloc(%d): %d, not %d", class, place, places[k])
			}
			m.alloc(class)
			same(t, a, m)
			sameWords(t, a, m)
		}
		if place := got(t, a, class); place != places[3]+sizeOf(class)+1 {
			t.Errorf("Alloc(%d): %d", class, place)
		}
	}
}

// Words that were stored are noughts when their block is taken again, and while it is free, but for its first one.
func TestTakenAgainItsWordsAreNoughts(t *testing.T) {
	for class := range 6 {
		a, m := made(t, 128), newModel(128)
		for range 2 {
			place := got(t, a, class)
			m.alloc(class)
			for i := range sizeOf(class) {
				is(t, "Store", a.Store(place, i, math.MaxUint32), m.store(place, i, math.MaxUint32))
			}
		}
		for _, p := range a.Blocks() {
			is(t, "Free", a.Free(p.Place), m.free(p.Place))
		}
		same(t, a, m)
		for range 2 {
			place := got(t, a, class)
			m.alloc(class)
			for i := range sizeOf(class) {
				if x, err := a.Load(place, i); x != 0 || err != api.OK {
					t.Errorf("Load(%d, %d): %d, %d", place, i, x, err)
				}
			}
		}
		same(t, a, m)
	}
}

// wrongPlaces are all places near the words, and some far from them, at which no block that is taken begins.
func wrongPlaces(m *model) []int {
	out := []int{-1, -16, -17, math.MinInt, math.MaxInt, math.MaxInt - 31, 1 << 32, 1<<32 + 17, 1 << 20}
	for place := range m.n + 40 {
		if m.at(place) == nil {
			out = append(out, place)
		}
	}
	return out
}

func TestFreeOfWhatIsNotTaken(t *testing.T) {
	a, m := full(t)
	for _, place := range wrongPlaces(m) {
		if err := a.Free(place); err != api.ErrNone {
			t.Fatalf("Free(%d): %d", place, err)
		}
	}
	same(t, a, m)
	place := got(t, a, 0)
	is(t, "Free", a.Free(place), api.OK)
	is(t, "Free once more", a.Free(place), api.ErrNone)
	same(t, a, m)
}

func TestFreeOfWhatIsPublished(t *testing.T) {
	for _, q := range []struct{ four, six int }{{17, 0}, {0, 17}, {17, 19}, {19, 17}, {17, 17}} {
		a, m := made(t, 64), newModel(64)
		for range 3 {
			got(t, a, 0)
			m.alloc(0)
		}
		r := api.Root{Version: 1, Four: q.four, Six: q.six}
		is(t, "Publish", a.Publish(r), m.publish(r))
		for _, place := range []int{q.four, q.six} {
			want := api.ErrArg
			if place == 0 {
				want = api.ErrNone
			}
			is(t, "Free of the root cell's", a.Free(place), want)
		}
		same(t, a, m)
		is(t, "Free of another one", a.Free(21), m.free(21))
		r = api.Root{Version: 2}
		is(t, "Publish", a.Publish(r), m.publish(r))
		is(t, "Free(17) of an older root", a.Free(17), m.free(17))
		same(t, a, m)
	}
}

// P6.3

func TestClass(t *testing.T) {
	a, m := full(t)
	for _, place := range wrongPlaces(m) {
		if class, ok := a.Class(place); class != 0 || ok {
			t.Fatalf("Class(%d): %d, %t", place, class, ok)
		}
	}
	for _, p := range m.pieces(true) {
		if class, ok := a.Class(p.Place); class != p.Class || !ok {
			t.Errorf("Class(%d): %d, %t", p.Place, class, ok)
		}
	}
}

// Words that look like heads make no place of the words behind them.
func TestWordsThatLookLikeHeads(t *testing.T) {
	a, m := made(t, 128), newModel(128)
	for _, class := range []int{5, 3, 2} {
		place := got(t, a, class)
		m.alloc(class)
		for i := range sizeOf(class) {
			x := uint32(16 + i%12)
			is(t, "Store", a.Store(place, i, x), m.store(place, i, x))
		}
	}
	same(t, a, m)
	sameWords(t, a, m)
	b, err := arena.Decode(a.Encode())
	is(t, "Decode", err, api.OK)
	same(t, b, m)
	sameWords(t, b, m)
	for _, place := range wrongPlaces(m) {
		if err := b.Free(place); err != api.ErrNone {
			t.Fatalf("Free(%d): %d", place, err)
		}
	}
}

func TestLoadAndStore(t *testing.T) {
	a, m := full(t)
	for _, p := range m.pieces(true) {
		last := sizeOf(p.Class) - 1
		for _, i := range []int{0, last} {
			for _, x := range []uint32{math.MaxUint32, 1 << 31, 1, 0, 77} {
				is(t, "Store", a.Store(p.Place, i, x), m.store(p.Place, i, x))
				if y, err := a.Load(p.Place, i); y != x || err != api.OK {
					t.Errorf("Load(%d, %d): %d, %d", p.Place, i, y, err)
				}
			}
		}
		same(t, a, m)
		for _, i := range []int{-1, -2, -32, last + 1, last + 2, 32, 64, 1 << 32, 1 << 62, math.MaxInt, math.MinInt, math.MaxInt - p.Place + 1} {
			if x, err := a.Load(p.Place, i); x != 0 || err != api.ErrArg {
				t.Errorf("Load(%d, %d): %d, %d", p.Place, i, x, err)
			}
			is(t, "Store", a.Store(p.Place, i, 5), api.ErrArg)
		}
		same(t, a, m)
	}
	sameWords(t, a, m)
}

// ErrNone goes ahead of ErrArg.
func TestLoadAndStoreWhereNothingIsTaken(t *testing.T) {
	a, m := full(t)
	for _, place := range wrongPlaces(m) {
		for _, i := range []int{0, 1, 31, -1, 32, math.MaxInt, math.MinInt} {
			if x, err := a.Load(place, i); x != 0 || err != api.ErrNone {
				t.Fatalf("Load(%d, %d): %d, %d", place, i, x, err)
			}
			if err := a.Store(place, i, 5); err != api.ErrNone {
				t.Fatalf("Store(%d, %d): %d", place, i, err)
			}
		}
	}
	same(t, a, m)
}

func TestBlocksAndSpare(t *testing.T) {
	a := made(t, 128)
	for _, class := range []int{3, 0, 3, 1} {
		got(t, a, class)
	}
	is(t, "Free(28)", a.Free(28), api.OK)
	is(t, "Free(17)", a.Free(17), api.OK)
	if got, want := a.Blocks(), []api.Piece{{Place: 26, Class: 0}, {Place: 37, Class: 1}}; !slices.Equal(got, want) {
		t.Errorf("Blocks: %v", got)
	}
	if got, want := a.Spare(), []api.Piece{{Place: 17, Class: 3}, {Place: 28, Class: 3}}; !slices.Equal(got, want) {
		t.Errorf("Spare: %v", got)
	}
	if a.Left() != 128-39 {
		t.Errorf("Left: %d", a.Left())
	}
}

// What is answered is new memory: nobody changes the arena by it.
func TestAnswersAreNewMemory(t *testing.T) {
	a, m := full(t)
	clear(a.Blocks())
	clear(a.Spare())
	clear(a.Encode())
	same(t, a, m)
}

// P6.4

func TestPublish(t *testing.T) {
	a, m := made(t, 64), newModel(64)
	for range 2 {
		got(t, a, 1)
		m.alloc(1)
	}
	for _, r := range []api.Root{
		{Version: 1},
		{Version: 2, Epoch: 5, Four: 17},
		{Version: 3, Epoch: 4, Six: 20},
		{Version: 4, Epoch: 1 << 62, Four: 17, Six: 20},
		{Version: 5, Epoch: math.MaxUint64, Four: 20, Six: 17},
		{Version: 6, Epoch: 1<<32 + 1, Four: 17, Six: 17},
		{Version: 7},
	} {
		is(t, "Publish", a.Publish(r), m.publish(r))
		if a.Root() != r || a.Fence() != 0 {
			t.Errorf("Root, Fence: %v, %d; not %v", a.Root(), a.Fence(), r)
		}
		same(t, a, m)
	}
}

func TestPublishOfWhatMayNot(t *testing.T) {
	a, m := full(t)
	held, fence := m.pieces(true)[0].Place, m.fence
	for _, q := range []struct {
		r    api.Root
		want api.Errno
	}{
		{api.Root{Version: 2, Epoch: fence - 1}, api.ErrFence},
		{api.Root{Version: 2, Epoch: 0, Four: held}, api.ErrFence},
		{api.Root{Version: 7, Epoch: fence - 1, Four: 1}, api.ErrFence},
		{api.Root{Version: 1, Epoch: fence - 1}, api.ErrFence},
		{api.Root{Version: 1, Epoch: fence}, api.ErrVersion},
		{api.Root{Version: 0, Epoch: fence}, api.ErrVersion},
		{api.Root{Version: 3, Epoch: fence, Four: held}, api.ErrVersion},
		{api.Root{Version: 1<<32 + 2, Epoch: fence}, api.ErrVersion},
		{api.Root{Version: math.MaxUint64, Epoch: math.MaxUint64, Six: -1}, api.ErrVersion},
		{api.Root{Version: 3, Epoch: fence, Four: 1, Six: 1}, api.ErrVersion},
	} {
		is(t, "Publish", a.Publish(q.r), q.want)
	}
	for _, place := range wrongPlaces(m) {
		if place == 0 {
			continue
		}
		for _, r := range []api.Root{{Four: place}, {Six: place}, {Four: held, Six: place}, {Four: place, Six: held}, {Four: place, Six: place}} {
			r.Version, r.Epoch = 2, fence
			if err := a.Publish(r); err != api.ErrNone {
				t.Fatalf("Publish(%v): %d", r, err)
			}
		}
	}
	same(t, a, m)
	r := api.Root{Version: 2, Epoch: fence, Four: held, Six: held}
	is(t, "Publish by the fence's own epoch", a.Publish(r), m.publish(r))
	same(t, a, m)
}

// There is no version behind the greatest one.
func TestPublishBehindTheGreatestVersion(t *testing.T) {
	m := newModel(64)
	m.root.Version = math.MaxUint64 - 1
	a, err := arena.Decode(bytesOf(m.words()))
	is(t, "Decode", err, api.OK)
	r := api.Root{Version: math.MaxUint64, Epoch: 3}
	is(t, "Publish", a.Publish(r), m.publish(r))
	same(t, a, m)
	for _, version := range []uint64{0, 1, math.MaxUint64, math.MaxUint64 - 1} {
		is(t, "Publish", a.Publish(api.Root{Version: version, Epoch: 3}), api.ErrVersion)
	}
	same(t, a, m)
}

// A number whose lower half is full goes on in the higher one.
func TestPublishOverTheHalves(t *testing.T) {
	m := newModel(64)
	m.root.Version = math.MaxUint32
	a, err := arena.Decode(bytesOf(m.words()))
	is(t, "Decode", err, api.OK)
	for _, version := range []uint64{0, 1, 1 << 32, 1<<32 + 1} {
		r := api.Root{Version: version, Epoch: version << 30}
		is(t, "Publish", a.Publish(r), m.publish(r))
		same(t, a, m)
	}
}

func TestRaise(t *testing.T) {
	a, m := full(t)
	is(t, "Raise to less", a.Raise(m.fence-1), api.ErrFence)
	is(t, "Raise to nought", a.Raise(0), api.ErrFence)
	same(t, a, m)
	for _, epoch := range []uint64{m.fence, m.fence + 1, 1 << 62, 1<<63 + 1<<31, math.MaxUint64 - 1, math.MaxUint64, math.MaxUint64} {
		is(t, "Raise", a.Raise(epoch), m.raise(epoch))
		if a.Fence() != epoch {
			t.Errorf("Fence: %d, not %d", a.Fence(), epoch)
		}
		same(t, a, m)
	}
	is(t, "Raise to less", a.Raise(math.MaxUint64-1), api.ErrFence)
	is(t, "Publish below", a.Publish(api.Root{Version: 2, Epoch: math.MaxUint64 - 1}), api.ErrFence)
	r := api.Root{Version: 2, Epoch: math.MaxUint64}
	is(t, "Publish", a.Publish(r), m.publish(r))
	same(t, a, m)
	is(t, "Raise(0) of a new one", made(t, 64).Raise(0), api.OK)
}

// What was published stays, however high the fence is raised then.
func TestRaiseLeavesTheRootCell(t *testing.T) {
	a := made(t, 64)
	r := api.Root{Version: 1, Epoch: 4, Four: got(t, a, 2)}
	is(t, "Publish", a.Publish(r), api.OK)
	is(t, "Raise", a.Raise(9), api.OK)
	if a.Root() != r || a.Fence() != 9 {
		t.Errorf("Root, Fence: %v, %d", a.Root(), a.Fence())
	}
}

// All calls of nil

func TestNil(t *testing.T) {
	var a *arena.Arena
	for _, n := range []int{-1, 0, 5, 6, 17, math.MaxInt, math.MinInt} {
		if place, err := a.Alloc(n); place != 0 || err != api.ErrNil {
			t.Errorf("Alloc(%d): %d, %d", n, place, err)
		}
		is(t, "Free", a.Free(n), api.ErrNil)
		if class, ok := a.Class(n); class != 0 || ok {
			t.Errorf("Class(%d): %d, %t", n, class, ok)
		}
		if x, err := a.Load(n, n); x != 0 || err != api.ErrNil {
			t.Errorf("Load(%d, %d): %d, %d", n, n, x, err)
		}
		is(t, "Store", a.Store(n, n, 1), api.ErrNil)
		is(t, "Publish", a.Publish(api.Root{Version: uint64(n), Four: n, Six: n}), api.ErrNil)
		is(t, "Raise", a.Raise(uint64(n)), api.ErrNil)
	}
	if a.Blocks() != nil || a.Spare() != nil || a.Encode() != nil || a.Left() != 0 || a.Fence() != 0 || a.Root() != (api.Root{}) {
		t.Errorf("told of nil: %v, %v, %v, %d, %d, %v", a.Blocks(), a.Spare(), a.Encode(), a.Left(), a.Fence(), a.Root())
	}
}
