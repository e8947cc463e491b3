package arena_test

import (
	"bytes"
	"encoding/binary"
	"math"
	"slices"
	"testing"

	"junctionbox/api"
	"junctionbox/arena"
)

// dice are numbers in a row that is always the same.
type dice uint64

func (d *dice) roll(n int) int {
	*d = *d*6364136223846793005 + 1442695040888963407
	return int(uint64(*d) >> 33 % uint64(n))
}

// block is one of a model: what it holds stands by itself, not among other words.
type block struct {
	class int
	taken bool
	words []uint32
}

// model is an arena as the chapter says it, but for the words: blocks by places, free lists as rows, the first one ahead, and the cells.
type model struct {
	n, edge int
	blocks  map[int]*block
	lists   [6][]int
	root    api.Root
	fence   uint64
}

func newModel(n int) *model {
	return &model{n: n, edge: 16, blocks: map[int]*block{}}
}

func (m *model) alloc(class int) (int, api.Errno) {
	if class < 0 || class > 5 {
		return 0, api.ErrArg
	}
	size := sizeOf(class)
	if row := m.lists[class]; len(row) > 0 {
		m.lists[class] = row[1:]
		*m.blocks[row[0]] = block{class, true, make([]uint32, size)}
		return row[0], api.OK
	}
	if m.n-m.edge < size+1 {
		return 0, api.ErrFull
	}
	place := m.edge + 1
	m.blocks[place] = &block{class, true, make([]uint32, size)}
	m.edge += size + 1
	return place, api.OK
}

func (m *model) free(place int) api.Errno {
	b := m.at(place)
	switch {
	case b == nil:
		return api.ErrNone
	case place == m.root.Four || place == m.root.Six:
		return api.ErrArg
	}
	*b = block{b.class, false, make([]uint32, len(b.words))}
	m.lists[b.class] = append([]int{place}, m.lists[b.class]...)
	return api.OK
}

// at is the block that is taken there.
func (m *model) at(place int) *block {
	if b := m.blocks[place]; b != nil && b.taken {
		return b
	}
	return nil
}

func (m *model) load(place, i int) (uint32, api.Errno) {
	b := m.at(place)
	switch {
	case b == nil:
		return 0, api.ErrNone
	case i < 0 || i >= len(b.words):
		return 0, api.ErrArg
	}
	return b.words[i], api.OK
}

func (m *model) store(place, i int, x uint32) api.Errno {
	_, err := m.load(place, i)
	if err == api.OK {
		m.blocks[place].words[i] = x
	}
	return err
}

func (m *model) publish(r api.Root) api.Errno {
	switch {
	case r.Epoch < m.fence:
		return api.ErrFence
	case m.root.Version == math.MaxUint64 || r.Version != m.root.Version+1:
		return api.ErrVersion
	case r.Four != 0 && m.at(r.Four) == nil, r.Six != 0 && m.at(r.Six) == nil:
		return api.ErrNone
	}
	m.root = r
	return api.OK
}

func (m *model) raise(epoch uint64) api.Errno {
	if epoch < m.fence {
		return api.ErrFence
	}
	m.fence = epoch
	return api.OK
}

func (m *model) class(place int) (int, bool) {
	if b := m.at(place); b != nil {
		return b.class, true
	}
	return 0, false
}

// pieces is the blocks that are taken, or free, by rising places.
func (m *model) pieces(taken bool) []api.Piece {
	var out []api.Piece
	for place := range m.n {
		if b := m.blocks[place]; b != nil && b.taken == taken {
			out = append(out, api.Piece{Place: place, Class: b.class})
		}
	}
	return out
}

// words lays the model as the chapter's table says.
func (m *model) words() []uint32 {
	w := make([]uint32, m.n)
	w[0] = uint32(m.n)
	w[1], w[2] = halves(m.root.Version)
	w[3], w[4] = halves(m.root.Epoch)
	w[5], w[6] = uint32(m.root.Four), uint32(m.root.Six)
	w[7], w[8] = halves(m.fence)
	w[15] = uint32(m.edge)
	for place, b := range m.blocks {
		w[place-1] = uint32(16 + 2*b.class)
		if b.taken {
			w[place-1]++
		}
		copy(w[place:], b.words)
	}
	for class, row := range m.lists {
		at := 9 + class
		for _, place := range row {
			w[at] = uint32(place)
			at = place
		}
	}
	return w
}

func halves(x uint64) (uint32, uint32) {
	return uint32(x / (1 << 32)), uint32(x % (1 << 32))
}

func sizeOf(class int) int {
	return []int{1, 2, 4, 8, 16, 32}[class]
}

func bytesOf(words []uint32) []byte {
	var out []byte
	for _, x := range words {
		out = binary.BigEndian.AppendUint32(out, x)
	}
	return out
}

func wordsOf(b []byte) []uint32 {
	var out []uint32
	for ; len(b) >= 4; b = b[4:] {
		out = append(out, binary.BigEndian.Uint32(b))
	}
	return out
}

// same fails a test, if the arena does not tell what the model tells.
func same(t *testing.T, a *arena.Arena, m *model) {
	t.Helper()
	if got, want := a.Encode(), bytesOf(m.words()); !bytes.Equal(got, want) {
		t.Fatalf("the words are\n%v, not\n%v", wordsOf(got), wordsOf(want))
	}
	if a.Root() != m.root || a.Fence() != m.fence || a.Left() != m.n-m.edge {
		t.Fatalf("Root, Fence, Left: %v, %d, %d; not %v, %d, %d", a.Root(), a.Fence(), a.Left(), m.root, m.fence, m.n-m.edge)
	}
	if !slices.Equal(a.Blocks(), m.pieces(true)) || !slices.Equal(a.Spare(), m.pieces(false)) {
		t.Fatalf("Blocks, Spare: %v, %v; not %v, %v", a.Blocks(), a.Spare(), m.pieces(true), m.pieces(false))
	}
}

// sameWords fails a test, if Class or Load tell something else than the model, at whichever place.
func sameWords(t *testing.T, a *arena.Arena, m *model) {
	t.Helper()
	for place := -2; place < m.n+40; place++ {
		class, ok := a.Class(place)
		if wantClass, wantOk := m.class(place); class != wantClass || ok != wantOk {
			t.Fatalf("Class(%d): %d, %t; not %d, %t", place, class, ok, wantClass, wantOk)
		}
		for i := -1; i < 34; i++ {
			x, err := a.Load(place, i)
			if wantX, wantErr := m.load(place, i); x != wantX || err != wantErr {
				t.Fatalf("Load(%d, %d): %d, %d; not %d, %d", place, i, x, err, wantX, wantErr)
			}
		}
	}
}

// made is a new arena of n words.
func made(t *testing.T, n int) *arena.Arena {
	t.Helper()
	a, err := arena.New(n)
	if a == nil || err != api.OK {
		t.Fatalf("New(%d): %d", n, err)
	}
	return a
}

// got is what Alloc tells, which must not fail.
func got(t *testing.T, a *arena.Arena, class int) int {
	t.Helper()
	place, err := a.Alloc(class)
	if err != api.OK {
		t.Fatalf("Alloc(%d): %d", class, err)
	}
	return place
}

// is fails a test, if an error is another one.
func is(t *testing.T, what string, err, want api.Errno) {
	t.Helper()
	if err != want {
		t.Errorf("%s: %d, not %d", what, err, want)
	}
}

// full is an arena of 200 words with everything in it: blocks of all classes, some taken and some free, several of them of one class, and cells that are no noughts; and its model.
func full(t *testing.T) (*arena.Arena, *model) {
	t.Helper()
	a, m := made(t, 200), newModel(200)
	for _, class := range []int{0, 1, 2, 3, 4, 5, 0, 1, 2, 2, 0, 3, 1, 4, 0} {
		place := got(t, a, class)
		if want, err := m.alloc(class); place != want || err != api.OK {
			t.Fatalf("Alloc(%d): %d, not %d", class, place, want)
		}
	}
	for k, p := range a.Blocks() {
		for i := range sizeOf(p.Class) {
			x := uint32(1000*p.Place + i + 16)
			is(t, "Store", a.Store(p.Place, i, x), m.store(p.Place, i, x))
		}
		if k%2 == 0 {
			is(t, "Free", a.Free(p.Place), m.free(p.Place))
		}
	}
	held := a.Blocks()
	r := api.Root{Version: 1, Epoch: 1<<40 + 3, Four: held[0].Place, Six: held[2].Place}
	is(t, "Raise", a.Raise(1<<35+9), m.raise(1<<35+9))
	is(t, "Publish", a.Publish(r), m.publish(r))
	same(t, a, m)
	return a, m
}
