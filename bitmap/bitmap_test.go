package bitmap_test

import (
	"math"
	"slices"
	"testing"

	"junctionbox/api"
	"junctionbox/bitmap"
)

// The chapter's examples.

func TestExamples(t *testing.T) {
	wantIndex(t, 0, 0, 0, api.OK)
	wantIndex(t, 3, 7, 14, api.OK)
	wantIndex(t, 2, 4, 0, api.ErrArg)
	wantMatch(t, setOf(0, 2), 0b1000, 3, 2, true)
	wantMatch(t, setOf(1), 0b1000, 3, 0, false)
	if rank := bitmap.Rank(0b1011, 3); rank != 2 {
		t.Errorf("Rank(1011, 3): %d", rank)
	}
	if list := bitmap.Bits(0b1011); !slices.Equal(list, []int{0, 1, 3}) {
		t.Errorf("Bits(1011): %v", list)
	}
	wantWords(t, api.Node{Inner: 1, Outer: 2, Results: 5, Children: 9}, 0x00020001, 5, 9)
}

// P7.1

func TestCheckAtTheEdges(t *testing.T) {
	right := []api.Node{
		{},
		{Inner: 1, Results: 1},
		{Inner: 1 << 14, Results: 17},
		{Inner: 1<<15 - 1, Results: math.MaxUint32},
		{Outer: 1, Children: 1},
		{Outer: 1 << 15, Children: 17},
		{Outer: 1<<16 - 1, Children: math.MaxUint32},
		{Inner: 1<<15 - 1, Outer: 1<<16 - 1, Results: 5, Children: 5},
	}
	for _, n := range right {
		is(t, "Check of a right one", bitmap.Check(n), api.OK)
	}
	wrong := []api.Node{
		{Inner: 1 << 15, Results: 1},
		{Inner: 1<<15 | 1, Results: 1},
		{Inner: 1 << 16, Results: 1},
		{Inner: math.MaxUint32, Results: 1},
		{Outer: 1 << 16, Children: 1},
		{Outer: 1<<16 | 1, Children: 1},
		{Outer: math.MaxUint32, Children: 1},
		{Inner: 1},
		{Results: 1},
		{Outer: 1},
		{Children: 1},
		{Inner: 1, Children: 1},
		{Outer: 1, Results: 1},
		{Inner: 1, Outer: 1, Results: 1},
		{Inner: 1, Outer: 1, Children: 1},
		{Inner: 1, Results: 1, Children: 1},
		{Outer: 1, Results: 1, Children: 1},
	}
	for _, n := range wrong {
		if err := bitmap.Check(n); err != api.ErrNode {
			t.Errorf("Check(%v): %d", n, err)
		}
	}
}

func TestCheckOfEachMix(t *testing.T) {
	bits := []uint32{0, 1, 2, 1 << 14, 1<<15 - 1, 1 << 15, 1<<15 + 1, 1<<16 - 1, 1 << 16, 1<<16 + 1, 1 << 31, math.MaxUint32}
	places := []uint32{0, 1, 17, 1 << 16, 1 << 31, math.MaxUint32}
	for _, inner := range bits {
		for _, outer := range bits {
			for _, results := range places {
				for _, children := range places {
					n := api.Node{Inner: inner, Outer: outer, Results: results, Children: children}
					if err := bitmap.Check(n); (err == api.OK) != mayBe(n) || err != api.OK && err != api.ErrNode {
						t.Errorf("Check(%v): %d", n, err)
					}
				}
			}
		}
	}
}

// Each prefix has the bit that it has in the order of lengths, then of values.
func TestIndexOfEach(t *testing.T) {
	for want, row := range within() {
		value := 0
		for _, c := range row {
			value = 2*value + int(c-'0')
		}
		wantIndex(t, len(row), value, want, api.OK)
	}
}

func TestIndexAtTheEdges(t *testing.T) {
	for bits, ends := range [][2]int{{0, 0}, {1, 2}, {3, 6}, {7, 14}} {
		most := ends[1] - ends[0]
		wantIndex(t, bits, 0, ends[0], api.OK)
		wantIndex(t, bits, most, ends[1], api.OK)
		for _, value := range []int{-1, -8, most + 1, 16, 1 << 32, math.MaxInt, math.MinInt} {
			wantIndex(t, bits, value, 0, api.ErrArg)
		}
	}
	for _, bits := range []int{-1, -2, -64, 4, 5, 31, 32, 63, 64, 65, 1 << 32, math.MaxInt, math.MinInt} {
		for _, value := range []int{0, 1, -1, math.MaxInt, math.MinInt} {
			wantIndex(t, bits, value, 0, api.ErrArg)
		}
	}
}

// P7.2

func TestMatchOfEach(t *testing.T) {
	rows := within()
	for set := range 1 << 15 {
		inner := spread(uint32(set))
		for nibble := range 16 {
			for most := -1; most <= 4; most++ {
				bit, found := longestOf(rows, inner, spelled(nibble), most)
				if got, ok := bitmap.Match(uint32(set), nibble, most); got != bit || ok != found {
					t.Fatalf("Match(%b, %b, %d): %d, %t, not %d, %t", set, nibble, most, got, ok, bit, found)
				}
			}
		}
	}
}

func TestMatchAtTheEdges(t *testing.T) {
	all := setOf(0, 1, 2, 3, 4, 5, 6, 7, 8, 9, 10, 11, 12, 13, 14)
	wantMatch(t, all, 0b1111, 3, 14, true)
	wantMatch(t, all, 0b0000, 3, 7, true)
	wantMatch(t, all, 0b1011, 3, 12, true)
	wantMatch(t, all, 0b1011, 2, 5, true)
	wantMatch(t, all, 0b1011, 1, 2, true)
	wantMatch(t, all, 0b1011, 0, 0, true)
	wantMatch(t, setOf(0), 0b1011, 3, 0, true) // the shortest one alone
	wantMatch(t, setOf(0), 0b1011, 0, 0, true)
	wantMatch(t, setOf(12), 0b1011, 3, 12, true) // the longest one alone
	wantMatch(t, setOf(12), 0b1011, 2, 0, false)
	wantMatch(t, setOf(12), 0b1001, 3, 0, false)
	wantMatch(t, setOf(0, 12), 0b1001, 3, 0, true)
	wantMatch(t, 0, 0b1011, 3, 0, false)
	wantMatch(t, 0, 0, 0, 0, false)
}

func TestMatchOfOtherMost(t *testing.T) {
	for _, most := range []int{4, 5, 31, 64, 1 << 32, math.MaxInt} {
		wantMatch(t, setOf(0, 14), 15, most, 14, true)
		wantMatch(t, setOf(0), 15, most, 0, true)
		wantMatch(t, setOf(13), 15, most, 0, false)
	}
	for _, most := range []int{-1, -2, -3, -64, -1 << 32, math.MinInt} {
		wantMatch(t, math.MaxUint32, 15, most, 0, false)
		wantMatch(t, 1, 0, most, 0, false)
	}
}

// Of a nibble with more bits, or below 0, its lowest four count.
func TestMatchOfOtherNibbles(t *testing.T) {
	for low := range 16 {
		for _, above := range []int{16, 32, 240, 1 << 32, 1 << 62, -16, -32, -1 << 32, math.MinInt} {
			for most := range 4 {
				bit, found := bitmap.Match(setOf(0, 2, 4, 8, 11, 14), low, most)
				wantMatch(t, setOf(0, 2, 4, 8, 11, 14), low+above, most, bit, found)
			}
		}
	}
	wantMatch(t, setOf(14), -1, 3, 14, true)
	wantMatch(t, setOf(14), -2, 3, 14, true)
	wantMatch(t, setOf(14), -3, 3, 0, false)
	wantMatch(t, setOf(7), math.MinInt, 3, 7, true)
	wantMatch(t, setOf(14), math.MaxInt, 3, 14, true)
}

// The bits from 15 on neither match nor hinder.
func TestMatchOfBitsBeyond(t *testing.T) {
	for nibble := range 16 {
		for most := -1; most <= 5; most++ {
			for bit := 15; bit < 32; bit++ {
				wantMatch(t, setOf(bit), nibble, most, 0, false)
			}
			wantMatch(t, ^uint32(1<<15-1), nibble, most, 0, false)
			wantMatch(t, ^uint32(1<<15-1)|1, nibble, most, 0, most >= 0)
		}
	}
}

// P7.3

func TestRank(t *testing.T) {
	for _, set := range sets() {
		below := 0
		for bit, is := range append(spread(set), false) {
			wantRank(t, set, bit, below)
			if is {
				below++
			}
		}
		for _, bit := range noBits() {
			switch {
			case bit < 0:
				wantRank(t, set, bit, 0)
			default:
				wantRank(t, set, bit, below)
			}
		}
	}
	wantRank(t, math.MaxUint32, 0, 0)
	wantRank(t, math.MaxUint32, 31, 31)
	wantRank(t, math.MaxUint32, 32, 32)
	wantRank(t, math.MaxUint32, 33, 32)
	wantRank(t, math.MaxUint32, -1, 0)
	wantRank(t, 0, 32, 0)
}

func TestHas(t *testing.T) {
	for _, set := range sets() {
		for bit, is := range spread(set) {
			if bitmap.Has(set, bit) != is {
				t.Errorf("Has(%b, %d): %t", set, bit, !is)
			}
		}
		for _, bit := range noBits() {
			if bitmap.Has(set, bit) {
				t.Errorf("Has(%b, %d): true", set, bit)
			}
		}
	}
}

func TestWithAndWithout(t *testing.T) {
	for _, set := range sets() {
		for bit := range 32 {
			list := spread(set)
			list[bit] = true
			wantSet(t, "With", bitmap.With(set, bit), joined(list), set, bit)
			list[bit] = false
			wantSet(t, "Without", bitmap.Without(set, bit), joined(list), set, bit)
		}
		for _, bit := range noBits() {
			wantSet(t, "With", bitmap.With(set, bit), set, set, bit)
			wantSet(t, "Without", bitmap.Without(set, bit), set, set, bit)
		}
	}
}

func TestBits(t *testing.T) {
	for _, set := range sets() {
		var want []int
		for bit, is := range spread(set) {
			if is {
				want = append(want, bit)
			}
		}
		if list := bitmap.Bits(set); !slices.Equal(list, want) {
			t.Errorf("Bits(%b): %v", set, list)
		}
	}
	if list := bitmap.Bits(0); len(list) != 0 {
		t.Errorf("Bits(0): %v", list)
	}
	if list := bitmap.Bits(math.MaxUint32); len(list) != 32 || list[0] != 0 || list[31] != 31 {
		t.Errorf("Bits of all: %v", list)
	}
	if list := bitmap.Bits(setOf(0, 15, 31)); !slices.Equal(list, []int{0, 15, 31}) {
		t.Errorf("Bits of 0, 15, 31: %v", list)
	}
}

// What is answered is new memory each time.
func TestBitsAreNew(t *testing.T) {
	list := bitmap.Bits(0b1011)
	list[0] = 99
	if again := bitmap.Bits(0b1011); !slices.Equal(again, []int{0, 1, 3}) {
		t.Errorf("Bits: %v", again)
	}
}

// P7.5

func TestRankIsThePlaceAmongBits(t *testing.T) {
	for _, set := range sets() {
		for place, bit := range bitmap.Bits(set) {
			wantRank(t, set, bit, place)
		}
		wantRank(t, set, 32, len(bitmap.Bits(set)))
	}
}

func TestWithAndWithoutLeadToOneAnother(t *testing.T) {
	for _, set := range sets() {
		for bit := range 32 {
			there, back := bitmap.With, bitmap.Without
			if bitmap.Has(set, bit) {
				there, back = back, there
			}
			if other := there(set, bit); other == set || back(other, bit) != set || bitmap.Has(other, bit) == bitmap.Has(set, bit) {
				t.Errorf("%b and %d: there %b, back %b", set, bit, other, back(other, bit))
			}
		}
	}
}

func TestMatchIsTheLongest(t *testing.T) {
	for set := range uint32(1 << 15) {
		for nibble := range 16 {
			want, found := 0, false
			for k := range 4 {
				if bit, _ := bitmap.Index(k, nibble>>(4-k)); bitmap.Has(set, bit) {
					want, found = bit, true
				}
			}
			if bit, ok := bitmap.Match(set, nibble, 3); bit != want || ok != found {
				t.Fatalf("Match(%b, %b, 3): %d, %t", set, nibble, bit, ok)
			}
		}
	}
}

func wantIndex(t *testing.T, bits, value, want int, err api.Errno) {
	t.Helper()
	if bit, e := bitmap.Index(bits, value); bit != want || e != err {
		t.Errorf("Index(%d, %d): %d, %d, not %d, %d", bits, value, bit, e, want, err)
	}
}

func wantMatch(t *testing.T, inner uint32, nibble, most, want int, found bool) {
	t.Helper()
	if bit, ok := bitmap.Match(inner, nibble, most); bit != want || ok != found {
		t.Errorf("Match(%b, %b, %d): %d, %t, not %d, %t", inner, nibble, most, bit, ok, want, found)
	}
}

func wantRank(t *testing.T, set uint32, bit, want int) {
	t.Helper()
	if rank := bitmap.Rank(set, bit); rank != want {
		t.Errorf("Rank(%b, %d): %d, not %d", set, bit, rank, want)
	}
}

func wantSet(t *testing.T, what string, got, want, set uint32, bit int) {
	t.Helper()
	if got != want {
		t.Errorf("%s(%b, %d): %b, not %b", what, set, bit, got, want)
	}
}
