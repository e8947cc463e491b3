package bitmap_test

import (
	"math"
	"slices"
	"strings"
	"testing"

	"junctionbox/api"
	"junctionbox/bitmap"
)

// within is the prefixes within a node as texts of 0 and 1, each at the place of its bit.
func within() []string {
	rows := []string{""}
	for begin := 0; len(rows) < 15; {
		end := len(rows)
		for _, row := range rows[begin:end] {
			rows = append(rows, row+"0", row+"1")
		}
		begin = end
	}
	return rows
}

// spelled is a nibble's four bits as such a text.
func spelled(nibble int) string {
	var out strings.Builder
	for _, weight := range []int{8, 4, 2, 1} {
		out.WriteByte("01"[nibble/weight%2])
	}
	return out.String()
}

// longestOf is the bit that Match tells, found among texts.
func longestOf(rows []string, inner []bool, nibble string, most int) (int, bool) {
	bit, found := 0, false
	for i, row := range rows {
		if inner[i] && len(row) <= most && strings.HasPrefix(nibble, row) {
			bit, found = i, true // longer ones stand behind shorter ones
		}
	}
	return bit, found
}

// spread is a set as a list of whether each of its bits is set; it is told by halving, not by shifting.
func spread(set uint32) []bool {
	list := make([]bool, 32)
	for i := range list {
		list[i] = set%2 == 1
		set /= 2
	}
	return list
}

// joined is the set of which spread tells.
func joined(list []bool) uint32 {
	set, weight := uint32(0), uint64(1)
	for _, is := range list {
		if is {
			set += uint32(weight)
		}
		weight *= 2
	}
	return set
}

// setOf is the set of those bits.
func setOf(bits ...int) uint32 {
	list := make([]bool, 32)
	for _, bit := range bits {
		list[bit] = true
	}
	return joined(list)
}

// mayBe is the chapter's words of a node that may be, once more.
func mayBe(n api.Node) bool {
	if n.Inner > 32767 || n.Outer > 65535 {
		return false
	}
	if n.Inner == 0 && n.Results != 0 || n.Inner != 0 && n.Results == 0 {
		return false
	}
	return !(n.Outer == 0 && n.Children != 0 || n.Outer != 0 && n.Children == 0)
}

// sets are those at the edges, and some between them.
func sets() []uint32 {
	list := []uint32{
		0, 1, 2, 3, 0b1011, 1 << 14, 1<<15 - 1, 1 << 15, 1<<15 | 1, 1<<16 - 1, 1 << 16, 1<<16 | 1, 1<<31 - 1, 1 << 31, 1<<31 | 1, 1<<32 - 1,
		setOf(0, 15, 31), ^setOf(0, 15, 31), 0x55555555, 0xAAAAAAAA,
	}
	d := dice(7)
	for range 200 {
		list = append(list, d.word(), d.word()&d.word()&d.word(), 1<<d.roll(32))
	}
	return list
}

// noBits are those that no set has.
func noBits() []int {
	return []int{-1, -2, -31, -32, -33, -64, 32, 33, 63, 64, 65, 96, 256, 1 << 32, 1<<32 + 5, -1 << 32, math.MaxInt, math.MaxInt - 31, math.MinInt, math.MinInt + 5}
}

// dice is a row of numbers that is the same each time.
type dice uint64

func (d *dice) roll(n int) int {
	*d = *d*6364136223846793005 + 1442695040888963407
	return int(uint64(*d) >> 33 % uint64(n))
}

func (d *dice) word() uint32 {
	return uint32(d.roll(1<<16))<<16 | uint32(d.roll(1<<16))
}

func is(t *testing.T, what string, got, want api.Errno) {
	t.Helper()
	if got != want {
		t.Errorf("%s: %d, not %d", what, got, want)
	}
}

// wordsOf is what Encode answers of a node that may be.
func wordsOf(t *testing.T, n api.Node) []uint32 {
	t.Helper()
	w, err := bitmap.Encode(n)
	if err != api.OK || len(w) != 3 {
		t.Fatalf("Encode(%v): %x, %d", n, w, err)
	}
	return w
}

func wantWords(t *testing.T, n api.Node, want ...uint32) {
	t.Helper()
	if w := wordsOf(t, n); !slices.Equal(w, want) {
		t.Errorf("Encode(%v): %x, not %x", n, w, want)
	}
	if back, err := bitmap.Decode(want); back != n || err != api.OK {
		t.Errorf("Decode(%x): %v, %d, not %v", want, back, err, n)
	}
}
