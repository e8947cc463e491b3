package fib_test

import (
	"bytes"
	"maps"
	"math"
	"slices"
	"strconv"
	"strings"
	"testing"

	"junctionbox/api"
	"junctionbox/arena"
	"junctionbox/fib"
	"junctionbox/trie"
)

// four and six are addresses of bytes; those that are not told are noughts.
func four(b ...byte) api.Addr {
	return addrOf(4, b...)
}

func six(b ...byte) api.Addr {
	return addrOf(6, b...)
}

func addrOf(version int, b ...byte) api.Addr {
	a := api.Addr{Version: version}
	copy(a.Bytes[:], b)
	return a
}

func pre(a api.Addr, bits int) api.Prefix {
	return api.Prefix{Addr: a, Bits: bits}
}

func row(a api.Addr, bits, hop int) api.Row {
	return api.Row{Prefix: pre(a, bits), Hop: hop}
}

// full is so many bytes of ones.
func full(n int) []byte {
	return bytes.Repeat([]byte{255}, n)
}

func widthOf(version int) int {
	return map[int]int{4: 32, 6: 128}[version]
}

// name is an address or a prefix as a text: its version, and its first bits as 0 and 1. A prefix contains whatever has a name that begins with its own.
func name(a api.Addr, bits int) string {
	var out strings.Builder
	for _, b := range a.Bytes {
		text := strconv.FormatInt(int64(b), 2)
		out.WriteString(strings.Repeat("0", 8-len(text)) + text)
	}
	return strconv.Itoa(a.Version) + out.String()[:bits]
}

// named is the prefix of a name.
func named(text string) api.Prefix {
	p := api.Prefix{Addr: api.Addr{Version: int(text[0] - '0')}, Bits: len(text) - 1}
	for i, c := range []byte(text[1:]) {
		if c == '1' {
			p.Addr.Bytes[i/8] |= 128 >> (i % 8)
		}
	}
	return p
}

// model is what Rows has to tell: hops by names.
type model map[string]int

// rows is in the order of prefixes: as texts with noughts behind them, then the shorter ones first.
func (m model) rows() []api.Row {
	var list []api.Row
	for _, text := range slices.SortedFunc(maps.Keys(m), func(x, y string) int {
		padded := func(text string) string { return text + strings.Repeat("0", 129-len(text)) }
		if by := strings.Compare(padded(x), padded(y)); by != 0 {
			return by
		}
		return len(x) - len(y)
	}) {
		list = append(list, api.Row{Prefix: named(text), Hop: m[text]})
	}
	return list
}

// longest is the bits and the hop of the longest prefix of an address.
func (m model) longest(x api.Addr) (int, int, bool) {
	whole := name(x, widthOf(x.Version))
	for n := len(whole); n > 0; n-- {
		if hop, there := m[whole[:n]]; there {
			return n - 1, hop, true
		}
	}
	return 0, 0, false
}

// dice is a row of numbers that is the same each time.
type dice uint64

func (d *dice) roll(n int) int {
	*d = *d*6364136223846793005 + 1442695040888963407
	return int(uint64(*d) >> 33 % uint64(n))
}

// addr is one of addresses that share many first bits.
func (d *dice) addr() api.Addr {
	a := api.Addr{Version: 4 + 2*d.roll(2)}
	for i := range 2 {
		a.Bytes[i] = []byte{0, 10, 128, 255}[d.roll(4)]
	}
	a.Bytes[widthOf(a.Version)/8-1] = byte(d.roll(4))
	return a
}

// prefix is one of those that contain such addresses; those of few bits come often.
func (d *dice) prefix() api.Prefix {
	a := d.addr()
	bits := d.roll(20)
	if d.roll(6) == 0 {
		bits = d.roll(widthOf(a.Version) + 1)
	}
	return named(name(a, bits))
}

// is fails a test, if an error is another one.
func is(t *testing.T, what string, err, want api.Errno) {
	t.Helper()
	if err != want {
		t.Errorf("%s: %d, not %d", what, err, want)
	}
}

func made(t *testing.T, n int) *arena.Arena {
	t.Helper()
	a, err := arena.New(n)
	if err != api.OK {
		t.Fatalf("arena.New(%d): %d", n, err)
	}
	return a
}

// copied is an arena that is the same, and goes on by itself.
func copied(t *testing.T, a *arena.Arena) *arena.Arena {
	t.Helper()
	b, err := arena.Decode(a.Encode())
	if err != api.OK {
		t.Fatalf("Decode: %d", err)
	}
	return b
}

// fibOf is a new one on an arena.
func fibOf(t *testing.T, a *arena.Arena) *fib.Fib {
	t.Helper()
	f, err := fib.New(a)
	if f == nil || err != api.OK {
		t.Fatalf("New: %v, %d", f, err)
	}
	return f
}

// begun is a new fib with an open batch.
func begun(t *testing.T, a *arena.Arena) *fib.Fib {
	t.Helper()
	f := fibOf(t, a)
	is(t, "Begin", f.Begin(), api.OK)
	return f
}

// does fails a test at once, if something is refused.
func does(t *testing.T, what string, errs ...api.Errno) {
	t.Helper()
	for i, err := range errs {
		if err != api.OK {
			t.Fatalf("%s: %d at %d", what, err, i)
		}
	}
}

// put puts rows in the open batch.
func put(t *testing.T, f *fib.Fib, rows ...api.Row) {
	t.Helper()
	for _, h := range rows {
		does(t, "Put", f.Put(h.Prefix, h.Hop))
	}
}

// published is a batch of rows that is published as the next version.
func published(t *testing.T, a *arena.Arena, f *fib.Fib, rows ...api.Row) {
	t.Helper()
	does(t, "Begin", f.Begin())
	put(t, f, rows...)
	does(t, "Publish", f.Publish(a.Fence(), a.Root().Version+1))
}

// tells fails a test, if Rows are other ones.
func tells(t *testing.T, a *arena.Arena, want ...api.Row) {
	t.Helper()
	if rows, err := fib.Rows(a); !slices.Equal(rows, want) || err != api.OK {
		t.Errorf("Rows: %v, %d, not %v", rows, err, want)
	}
}

// waits fails a test, if others are waiting.
func waits(t *testing.T, f *fib.Fib, want ...int) {
	t.Helper()
	if got := f.Waits(); !slices.Equal(got, want) {
		t.Errorf("Waits: %v, not %v", got, want)
	}
}

// leads fails a test, if Roots are other ones.
func leads(t *testing.T, f *fib.Fib, wantFour, wantSix int) {
	t.Helper()
	if four, six := f.Roots(); four != wantFour || six != wantSix {
		t.Errorf("Roots: %d, %d, not %d, %d", four, six, wantFour, wantSix)
	}
}

// block takes a block of a class, and lays words in it.
func block(t *testing.T, a *arena.Arena, class int, words ...uint32) int {
	t.Helper()
	place, err := a.Alloc(class)
	does(t, "Alloc", err)
	for i, x := range words {
		does(t, "Store", a.Store(place, i, x))
	}
	return place
}

// insert lays a trie beside whatever a fib does.
func insert(t *testing.T, a *arena.Arena, rows ...api.Row) int {
	t.Helper()
	root := 0
	for _, h := range rows {
		next, retired, err := trie.Insert(a, root, h)
		does(t, "Insert", err)
		for _, place := range retired {
			does(t, "Free", a.Free(place))
		}
		root = next
	}
	return root
}

// cell lays roots in the root cell.
func cell(t *testing.T, a *arena.Arena, four, six int) {
	t.Helper()
	does(t, "arena.Publish", a.Publish(api.Root{Version: a.Root().Version + 1, Epoch: a.Fence(), Four: four, Six: six}))
}

// taken is the places of all blocks that are taken, spare of those that are free.
func taken(a *arena.Arena) []int {
	return placesOf(a.Blocks())
}

func spare(a *arena.Arena) []int {
	return placesOf(a.Spare())
}

func placesOf(list []api.Piece) []int {
	var places []int
	for _, p := range list {
		places = append(places, p.Place)
	}
	return places
}

// less is a list without what stands in another one.
func less(list, other []int) []int {
	return slices.DeleteFunc(slices.Clone(list), func(place int) bool {
		return slices.Contains(other, place)
	})
}

// reach is all that roots of both versions lead to, rising.
func reach(t *testing.T, a *arena.Arena, four, six int) []int {
	t.Helper()
	one, err := trie.Reach(a, four, 4)
	does(t, "Reach of version 4", err)
	two, err := trie.Reach(a, six, 6)
	does(t, "Reach of version 6", err)
	return slices.Sorted(slices.Values(slices.Concat(one, two)))
}

// stays fails a test, if what is done changes the arena, or what the fib tells.
func stays(t *testing.T, a *arena.Arena, f *fib.Fib, what string, do func()) {
	t.Helper()
	was, open, waiting := a.Encode(), f.Open(), f.Waits()
	wasFour, wasSix := f.Roots()
	do()
	if four, six := f.Roots(); !bytes.Equal(a.Encode(), was) || f.Open() != open || !slices.Equal(f.Waits(), waiting) || four != wasFour || six != wasSix {
		t.Errorf("%s has changed something", what)
	}
}

// end brings a seek to its end, and fails a test, if it does not tell what that model does.
func end(t *testing.T, a *arena.Arena, s api.Seek, want model) {
	t.Helper()
	for range 40 {
		if s.Over {
			break
		}
		s = nextOf(t, a, s)
	}
	if bits, hop, found := want.longest(s.Addr); !s.Over || s.Found != found || s.Bits != bits || s.Hop != hop {
		t.Fatalf("a seek tells %v, not %d bits, %d, %t", s, bits, hop, found)
	}
}

func wrongHops() []int {
	return []int{0, -1, 256, 257, 511, 1<<32 + 1, math.MinInt, math.MaxInt}
}

func wrongAddrs() []api.Addr {
	list := []api.Addr{four(1, 2, 3, 4, 5), four(append(make([]byte, 15), 1)...)}
	for _, version := range []int{0, 1, 5, 7, -4, 260, math.MinInt, math.MaxInt} {
		list = append(list, addrOf(version), addrOf(version, 10, 1, 2, 3))
	}
	return list
}

func wrongPrefixes() []api.Prefix {
	list := []api.Prefix{
		pre(four(), -1), pre(four(), 33), pre(four(10, 1), 8), pre(four(), math.MaxInt), pre(four(), math.MinInt),
		pre(six(), -1), pre(six(), 129), pre(six(full(16)...), 127), pre(six(1), 0),
	}
	for _, x := range wrongAddrs() {
		list = append(list, pre(x, 0), pre(x, 8), pre(x, 32))
	}
	return list
}

func nextOf(t *testing.T, a *arena.Arena, s api.Seek) api.Seek {
	t.Helper()
	next, err := trie.Next(a, s)
	does(t, "Next", err)
	return next
}
