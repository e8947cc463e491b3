package bitmap_test

import (
	"math"
	"slices"
	"testing"

	"junctionbox/api"
	"junctionbox/bitmap"
)

// P7.4

func TestEncode(t *testing.T) {
	wantWords(t, api.Node{}, 0, 0, 0)
	wantWords(t, api.Node{Inner: 1, Results: 1}, 1, 1, 0)
	wantWords(t, api.Node{Outer: 1, Children: 1}, 0x00010000, 0, 1)
	wantWords(t, api.Node{Inner: 0x7FFF, Outer: 0xFFFF, Results: math.MaxUint32, Children: math.MaxUint32}, 0xFFFF7FFF, math.MaxUint32, math.MaxUint32)
	wantWords(t, api.Node{Inner: 0x7FFF, Results: 0x01020304}, 0x00007FFF, 0x01020304, 0)
	wantWords(t, api.Node{Outer: 0xFFFF, Children: 0x01020304}, 0xFFFF0000, 0, 0x01020304)
	wantWords(t, api.Node{Inner: 0x4000, Outer: 0x8000, Results: 17, Children: 42}, 0x80004000, 17, 42)
}

func TestEncodeOfNoNode(t *testing.T) {
	wrong := []api.Node{
		{Inner: 1 << 15, Results: 1}, {Inner: 1<<16 | 1, Results: 1}, {Outer: 1 << 16, Children: 1}, {Outer: 1<<16 | 1, Children: 1},
		{Inner: 1}, {Results: 1}, {Outer: 1}, {Children: 1},
	}
	for _, n := range wrong {
		if w, err := bitmap.Encode(n); w != nil || err != api.ErrNode {
			t.Errorf("Encode(%v): %x, %d", n, w, err)
		}
	}
}

func TestDecodeOfTooFew(t *testing.T) {
	for _, w := range [][]uint32{nil, {}, {0}, {1}, {0, 0}, {0x00020001, 5}, {0x8000, 1}, {math.MaxUint32, math.MaxUint32}} {
		if n, err := bitmap.Decode(w); n != (api.Node{}) || err != api.ErrShort {
			t.Errorf("Decode(%x): %v, %d", w, n, err)
		}
	}
	// What stands in the room behind a list's end is not of it.
	if n, err := bitmap.Decode([]uint32{1, 5, 0}[:2]); n != (api.Node{}) || err != api.ErrShort {
		t.Errorf("Decode of two words ahead of a third: %v, %d", n, err)
	}
}

func TestDecodeOfNoNode(t *testing.T) {
	for _, w := range [][]uint32{
		{0x8000, 1, 0}, {0x8001, 1, 0}, {0xFFFFFFFF, 1, 1}, {1, 0, 0}, {0, 1, 0}, {0x10000, 0, 0}, {0, 0, 1}, {1, 0, 1}, {0x10000, 1, 0}, {0x10001, 1, 0}, {0x10001, 0, 1},
		{1, 0, 0, 1}, {0, 0, 1, 0, 0, 0},
	} {
		if n, err := bitmap.Decode(w); n != (api.Node{}) || err != api.ErrNode {
			t.Errorf("Decode(%x): %v, %d", w, n, err)
		}
	}
}

// Words behind the three do not count.
func TestDecodeOfMore(t *testing.T) {
	want := api.Node{Inner: 1, Outer: 2, Results: 5, Children: 9}
	for _, more := range [][]uint32{{0}, {1}, {math.MaxUint32, 3}, {0x8000, 0, 0}, {0x00020001, 0, 0, 7}} {
		w := append([]uint32{0x00020001, 5, 9}, more...)
		if n, err := bitmap.Decode(w); n != want || err != api.OK {
			t.Errorf("Decode(%x): %v, %d", w, n, err)
		}
	}
}

// R3: the words that are handed in stay, and those that are answered are new.
func TestWordsAreNotShared(t *testing.T) {
	w := []uint32{0x00020001, 5, 9, 7}
	kept := slices.Clone(w)
	n, _ := bitmap.Decode(w[:3])
	if !slices.Equal(w, kept) {
		t.Errorf("Decode changed its words: %x", w)
	}
	clear(w)
	one := wordsOf(t, n)
	clear(one)
	if two := wordsOf(t, n); !slices.Equal(two, kept[:3]) {
		t.Errorf("Encode again: %x", two)
	}
}

// P7.5

func TestDecodeOfEncodeIsTheNode(t *testing.T) {
	d := dice(11)
	for range 20000 {
		n := api.Node{Inner: d.word() >> 17, Outer: d.word() >> 16}
		if d.roll(8) == 0 {
			n.Inner = 0
		}
		if d.roll(8) == 0 {
			n.Outer = 0
		}
		if n.Inner != 0 {
			n.Results = d.word() | 1
		}
		if n.Outer != 0 {
			n.Children = d.word() | 1
		}
		if back, err := bitmap.Decode(wordsOf(t, n)); back != n || err != api.OK {
			t.Fatalf("Decode of Encode of %v: %v, %d", n, back, err)
		}
	}
}

// Whatever three words there are, they are a node's just if it may be, and then Encode tells them again.
func TestEncodeOfDecodeIsTheWords(t *testing.T) {
	d := dice(13)
	pick := []uint32{0, 0, 1, 17, 0x7FFF, 0x8000, 0xFFFF, 0x10000, 0xFFFF0000, math.MaxUint32}
	for range 20000 {
		w := []uint32{pick[d.roll(len(pick))], pick[d.roll(len(pick))], pick[d.roll(len(pick))]}
		if d.roll(2) == 0 {
			w[0] = d.word()
		}
		want := api.Node{Inner: w[0] % 65536, Outer: w[0] / 65536, Results: w[1], Children: w[2]}
		n, err := bitmap.Decode(w)
		switch {
		case !mayBe(want):
			if n != (api.Node{}) || err != api.ErrNode {
				t.Fatalf("Decode(%x): %v, %d", w, n, err)
			}
		case n != want || err != api.OK || !slices.Equal(wordsOf(t, n), w):
			t.Fatalf("Decode(%x): %v, %d", w, n, err)
		}
	}
}
