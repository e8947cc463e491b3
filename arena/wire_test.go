package arena_test

import (
	"bytes"
	"math"
	"slices"
	"testing"

	"junctionbox/api"
	"junctionbox/arena"
)

// refused fails a test, if Decode takes bytes, or tells something beside their error.
func refused(t *testing.T, what string, b []byte, want api.Errno) {
	t.Helper()
	if a, err := arena.Decode(b); a != nil || err != want {
		t.Errorf("Decode of %s: %v, %d, not %d", what, a, err, want)
	}
}

// isArena is the chapter's words once more: all blocks are told first, and whatever is asked is asked of these.
func isArena(w []uint32) bool {
	n := len(w)
	if n < 64 || n > 16384 || int(w[0]) != n || int(w[15]) < 16 || int(w[15]) > n {
		return false
	}
	edge := int(w[15])
	taken, free := map[int]int{}, map[int]int{}
	at := 16
	for at < edge {
		if w[at] < 16 || w[at] > 27 {
			return false
		}
		class := (int(w[at]) - 16) / 2
		if w[at]%2 == 1 {
			taken[at+1] = class
		} else {
			free[at+1] = class
		}
		at += 1 + sizeOf(class)
	}
	if at != edge || slices.Max(append([]uint32{0}, w[edge:]...)) > 0 {
		return false
	}
	var listed []int
	for class := range 6 {
		for place := int(w[9+class]); place != 0; place = int(w[place]) {
			if c, ok := free[place]; !ok || c != class || len(listed) > n {
				return false
			}
			listed = append(listed, place)
		}
	}
	slices.Sort(listed)
	if len(listed) != len(free) || len(slices.Compact(listed)) != len(free) {
		return false
	}
	for place, class := range free {
		if slices.Max(append([]uint32{0}, w[place+1:place+sizeOf(class)]...)) > 0 {
			return false
		}
	}
	for _, root := range w[5:7] {
		if _, ok := taken[int(root)]; root != 0 && !ok {
			return false
		}
	}
	return true
}

// judged fails a test, if Decode takes words that are none of an arena, or does not take those of one just as they are.
func judged(t *testing.T, w []uint32) bool {
	t.Helper()
	b := bytesOf(w)
	a, err := arena.Decode(b)
	if !isArena(w) {
		if want := api.ErrArena; a != nil || err != want && err != api.ErrShort {
			t.Fatalf("Decode of %v: %v, %d", w, a, err)
		}
		if (err == api.ErrShort) != (len(b) < 64 || int(w[0]) > len(w)) {
			t.Fatalf("Decode of %v: %d", w, err)
		}
		return false
	}
	if err != api.OK || !bytes.Equal(a.Encode(), b) {
		t.Fatalf("Decode of %v: %d", w, err)
	}
	return true
}

// P6.5

func TestEncode(t *testing.T) {
	a := made(t, 64)
	got(t, a, 1)
	got(t, a, 0)
	is(t, "Store", a.Store(17, 1, 0x01020304), api.OK)
	is(t, "Free", a.Free(20), api.OK)
	is(t, "Raise", a.Raise(0x0a0b0c0d0e0f1011), api.OK)
	is(t, "Publish", a.Publish(api.Root{Version: 1, Epoch: 0xf1f2f3f4f5f6f7f8, Six: 17}), api.OK)
	want := []byte{
		0, 0, 0, 64,
		0, 0, 0, 0, 0, 0, 0, 1,
		0xf1, 0xf2, 0xf3, 0xf4, 0xf5, 0xf6, 0xf7, 0xf8,
		0, 0, 0, 0,
		0, 0, 0, 17,
		0x0a, 0x0b, 0x0c, 0x0d, 0x0e, 0x0f, 0x10, 0x11,
		0, 0, 0, 20, 0, 0, 0, 0, 0, 0, 0, 0, 0, 0, 0, 0, 0, 0, 0, 0, 0, 0, 0, 0,
		0, 0, 0, 21,
		0, 0, 0, 19, 0, 0, 0, 0, 1, 2, 3, 4,
		0, 0, 0, 16, 0, 0, 0, 0,
	}
	want = append(want, make([]byte, 256-len(want))...)
	if got := a.Encode(); !bytes.Equal(got, want) {
		t.Errorf("Encode:\n%x, not\n%x", got, want)
	}
	if b, err := arena.Decode(want); err != api.OK || !bytes.Equal(b.Encode(), want) {
		t.Errorf("Decode: %d", err)
	}
}

func TestDecodeOfEncode(t *testing.T) {
	for _, n := range []int{64, 65, 4000, 16384} {
		a, err := arena.Decode(made(t, n).Encode())
		is(t, "Decode", err, api.OK)
		same(t, a, newModel(n))
	}
	_, m := full(t)
	a, err := arena.Decode(bytesOf(m.words()))
	is(t, "Decode", err, api.OK)
	same(t, a, m)
	sameWords(t, a, m)
	// It goes on as the one that was encoded, free lists and all.
	for class := range 6 {
		for range 4 {
			place, err := a.Alloc(class)
			if want, wantErr := m.alloc(class); place != want || err != wantErr {
				t.Fatalf("Alloc(%d): %d, %d; not %d, %d", class, place, err, want, wantErr)
			}
		}
	}
	same(t, a, m)
	sameWords(t, a, m)
}

// What was encoded, and what was decoded from it, go on by themselves.
func TestDecodeKeepsNothing(t *testing.T) {
	a, m := full(t)
	room := append(a.Encode(), 1, 2, 3, 4)
	b := room[:len(room)-4]
	c, err := arena.Decode(b)
	is(t, "Decode", err, api.OK)
	if !bytes.Equal(room, append(bytesOf(m.words()), 1, 2, 3, 4)) {
		t.Errorf("what was handed in is changed")
	}
	clear(room)
	same(t, c, m)
	is(t, "Store", c.Store(m.pieces(true)[0].Place, 0, 1), api.OK)
	got(t, c, 5)
	is(t, "Raise", c.Raise(math.MaxUint64), api.OK)
	same(t, a, m)
}

func TestDecodeOfTooFewBytes(t *testing.T) {
	a, _ := full(t)
	for _, b := range [][]byte{a.Encode(), made(t, 64).Encode()} {
		for size := range b {
			if a, err := arena.Decode(b[:size]); a != nil || err != api.ErrShort {
				t.Fatalf("Decode of %d bytes: %v, %d", size, a, err)
			}
		}
	}
	refused(t, "nothing", nil, api.ErrShort)
	refused(t, "63 noughts", make([]byte, 63), api.ErrShort)
	// The number of words counts, whether an arena may have so many or not.
	for _, first := range []uint32{17, 63, 64, 16384, 16385, 1 << 30, 1<<30 + 16, 1 << 31, 1<<32 - 1} {
		refused(t, "64 bytes of more words", append(bytesOf([]uint32{first}), make([]byte, 60)...), api.ErrShort)
	}
}

func TestDecodeOfAnotherNumberOfWords(t *testing.T) {
	for _, n := range []int{16, 17, 63, 16385} {
		w := make([]uint32, n)
		w[0], w[15] = uint32(n), 16
		refused(t, "words that are too few, or too many", bytesOf(w), api.ErrArena)
	}
	for _, first := range []uint32{0, 1, 15, 16} {
		refused(t, "64 bytes", append(bytesOf([]uint32{first}), make([]byte, 60)...), api.ErrArena)
	}
	b := made(t, 64).Encode()
	for _, behind := range [][]byte{{0}, {0, 0, 0}, {0, 0, 0, 0}, make([]byte, 64), make([]byte, 65536)} {
		refused(t, "bytes with more behind them", slices.Concat(b, behind), api.ErrArena)
	}
	b = made(t, 16384).Encode()
	refused(t, "the most words, with one more", append(b, 0, 0, 0, 0), api.ErrArena)
	b = made(t, 65).Encode()
	b[3] = 64
	refused(t, "65 words that say 64", b, api.ErrArena)
}

// held is an arena of 80 words with a block that is taken of each class from 1 to 4, and with two free ones of the class 0, and one of 1: the words that are changed below.
func held() *model {
	m := newModel(80)
	for _, class := range []int{0, 1, 2, 0, 1, 3, 4} {
		m.alloc(class)
	}
	for _, place := range []int{17, 27, 19} {
		m.free(place)
	}
	m.root = api.Root{Version: 3, Epoch: 2, Four: 22, Six: 29}
	m.fence = 5
	for place, b := range m.blocks {
		for i := range b.words {
			m.store(place, i, uint32(16+i%12))
		}
	}
	return m
}

func TestHeld(t *testing.T) {
	if m := held(); m.edge != 57 || !slices.Equal(m.lists[0], []int{27, 17}) || !slices.Equal(m.lists[1], []int{19}) || !judged(t, m.words()) {
		t.Fatalf("the words that are changed are %v, %v", m, m.words())
	}
}

func TestDecodeOfNoArena(t *testing.T) {
	type change struct {
		word int
		x    uint32
	}
	for _, q := range []struct {
		what    string
		changes []change
	}{
		{"an edge ahead of the blocks", []change{{15, 15}}},
		{"no edge", []change{{15, 0}}},
		{"an edge in the midst of a block", []change{{15, 56}}},
		{"an edge behind a block's head", []change{{15, 41}}},
		{"an edge that is too far", []change{{15, 58}}},
		{"an edge beyond the end", []change{{15, 81}}},
		{"an edge far beyond the end", []change{{15, 1<<32 - 1}}},
		{"an edge at the end", []change{{15, 80}}},
		{"a head that is a nought", []change{{16, 0}}},
		{"a head below all others", []change{{16, 15}}},
		{"a head of the class 6", []change{{21, 28}}},
		{"a head of the class 6, taken", []change{{21, 29}}},
		{"a head of the class 7, taken", []change{{40, 31}}},
		{"a head with another bit", []change{{21, 21 + 32}}},
		{"a head with the highest bit", []change{{21, 21 + 1<<31}}},
		{"a head without its mark", []change{{21, 5}}},
		{"a last block that goes on behind the edge", []change{{40, 27}}},
		{"a word behind the edge", []change{{57, 1}}},
		{"the last word", []change{{79, 1 << 31}}},
		{"a free block in no list", []change{{10, 0}}},
		{"a free block that was cut off its list", []change{{27, 0}}},
		{"a free block left out ahead of its list", []change{{9, 17}}},
		{"a free block in two lists", []change{{11, 19}}},
		{"a free block in two lists, of its class the other one", []change{{9, 19}}},
		{"a free block twice in its list", []change{{17, 27}}},
		{"a free block that leads to itself", []change{{19, 19}}},
		{"a list of another class", []change{{10, 0}, {11, 19}}},
		{"two lists that are changed for each other", []change{{9, 19}, {10, 27}}},
		{"a list that goes on into another one", []change{{17, 19}}},
		{"a list that goes on into another one, which has none of its own", []change{{17, 19}, {10, 0}}},
		{"a list with a block that is taken", []change{{11, 22}}},
		{"a list that goes on to a block that is taken", []change{{17, 22}}},
		{"a list in the midst of a block", []change{{10, 20}}},
		{"a list at a head", []change{{10, 18}}},
		{"a list ahead of all blocks", []change{{14, 1}}},
		{"a list at the first head", []change{{14, 16}}},
		{"a list behind the edge", []change{{14, 58}}},
		{"a list at the edge", []change{{14, 57}}},
		{"a list at the end", []change{{14, 80}}},
		{"a list beyond the end", []change{{14, 1<<32 - 1}}},
		{"a free block with a word behind its first one", []change{{20, 1}}},
		{"a block that is told free, and in no list", []change{{40, 24}}},
		{"a block that is told taken, and in a list", []change{{18, 19}}},
		{"Four of no block", []change{{5, 1}}},
		{"Four at a head", []change{{5, 21}}},
		{"Four of a free block", []change{{5, 17}}},
		{"Four in the midst of a block", []change{{5, 23}}},
		{"Four behind the edge", []change{{5, 58}}},
		{"Four beyond the end", []change{{5, 1<<32 - 1}}},
		{"Six of no block", []change{{6, 16}}},
		{"Six at a head", []change{{6, 28}}},
		{"Six of a free block", []change{{6, 27}}},
		{"Six in the midst of a block", []change{{6, 30}}},
		{"Six at the end", []change{{6, 80}}},
	} {
		w := held().words()
		for _, c := range q.changes {
			w[c.word] = c.x
		}
		refused(t, q.what, bytesOf(w), api.ErrArena)
		if isArena(w) {
			t.Errorf("%s: it is an arena", q.what)
		}
	}
}

// One block, or what is none, with each head and each edge, in more words than any block has.
func TestDecodeOfEachHeadAndEdge(t *testing.T) {
	taken := 0
	for _, x := range []uint32{0, 1, 14, 15, 16, 17, 18, 19, 20, 21, 22, 23, 24, 25, 26, 27, 28, 29, 30, 31, 32, 33, 43, 48, 49, 59, 16 + 64, 16 + 128, 16 + 1<<31, 17 + 1<<16, math.MaxUint32} {
		for edge := range uint32(180) {
			w := newModel(170).words()
			w[16], w[15] = x, edge
			if class := x / 2 % 8; x%2 == 0 && class < 6 {
				w[9+class] = 17
			}
			if judged(t, w) {
				taken++
			}
		}
	}
	// Each of the twelve heads has one edge that is right; the nought has one, too, but not with a list.
	if taken != 12 {
		t.Errorf("%d of them are arenas", taken)
	}
}

func TestDecodeOfAWrongEdge(t *testing.T) {
	empty, filled := newModel(64), newModel(64)
	for range 24 {
		filled.alloc(0)
	}
	for _, m := range []*model{empty, filled} {
		for _, edge := range []uint32{0, 1, 14, 15, 17, 63, 65, 66, 80, 97, 128, 1 << 16, 1<<31 - 1, 1 << 31, math.MaxUint32} {
			w := m.words()
			w[15] = edge
			refused(t, "another edge", bytesOf(w), api.ErrArena)
		}
		if !judged(t, m.words()) {
			t.Errorf("the right edge is refused")
		}
	}
}

// Cells, and words of blocks that are taken, may hold whatever they do.
func TestDecodeOfWhatMayBe(t *testing.T) {
	for _, word := range []int{1, 2, 3, 4, 7, 8, 22, 25, 29, 30, 32, 39, 41, 56} {
		w := held().words()
		w[word] = math.MaxUint32
		if !judged(t, w) {
			t.Errorf("the word %d with all bits is refused", word)
		}
	}
	w := held().words()
	w[9], w[17], w[27] = 17, 27, 0
	if !judged(t, w) {
		t.Errorf("a list in another order is refused")
	}
	w = held().words()
	w[5], w[6] = 22, 22
	if !judged(t, w) {
		t.Errorf("two roots at one place are refused")
	}
}

// Each word with each small number in it, and with some that are great.
func TestDecodeOfEachWordChanged(t *testing.T) {
	taken := 0
	for word := range 80 {
		for x := range uint32(90) {
			for _, x := range []uint32{x, x + 1<<31, x << 24, math.MaxUint32 - x} {
				w := held().words()
				w[word] = x
				if judged(t, w) {
					taken++
				}
			}
		}
	}
	if taken < 1000 {
		t.Errorf("only %d of them are arenas", taken)
	}
}

// Several words changed, to such numbers as stand in words.
func TestDecodeOfWordsChanged(t *testing.T) {
	var d dice
	taken := 0
	for range 60000 {
		w := held().words()
		for range 2 + d.roll(3) {
			word := []int{5, 6, 9, 10, 11, 14, 15, 16, 17, 18, 19, 20, 21, 26, 27, 28, 31, 32, 40, 57, 60}[d.roll(21)]
			w[word] = []uint32{0, 0, 16, 17, 18, 19, 20, 21, 22, 23, 24, 25, 26, 27, 29, 32, 41, 57, 60, 61}[d.roll(20)]
		}
		if judged(t, w) {
			taken++
		}
	}
	if taken < 100 {
		t.Errorf("only %d of them are arenas", taken)
	}
}

func TestDecodeOfAnyBytes(t *testing.T) {
	var d dice
	for range 2000 {
		w := make([]uint32, 64+d.roll(3))
		for i := range w {
			w[i] = []uint32{0, 16, 17, 18, 19, 20, 27, 64, 65, 66, math.MaxUint32}[d.roll(11)]
		}
		judged(t, w)
		w[0], w[15] = uint32(len(w)), uint32(16+d.roll(50))
		judged(t, w)
	}
}
