package trie_test

import (
	"bytes"
	"encoding/binary"
	"maps"
	"math"
	"slices"
	"strconv"
	"strings"
	"testing"

	"junctionbox/api"
	"junctionbox/arena"
	"junctionbox/trie"
)

// four and six are addresses of bytes; those that are not told are noughts.
func four(b ...byte) api.Addr {
	return addrOf(4, b...)
}

func six(b ...byte) api.Addr {
	return addrOf(6, b...)
}

func addrOf(version int, b ...byte) api.Addr {
	a := api.Addr{Version: version}
	copy(a.Bytes[:], b)
	return a
}

func pre(a api.Addr, bits int) api.Prefix {
	return api.Prefix{Addr: a, Bits: bits}
}

func row(a api.Addr, bits, hop int) api.Row {
	return api.Row{Prefix: pre(a, bits), Hop: hop}
}

func widthOf(version int) int {
	return map[int]int{4: 32, 6: 128}[version]
}

// full is so many bytes of ones.
func full(n int) []byte {
	return bytes.Repeat([]byte{255}, n)
}

// spelled is an address's bits as a text of 0 and 1: in the tests prefixes are such texts.
func spelled(a api.Addr) string {
	var out strings.Builder
	for _, b := range a.Bytes[:widthOf(a.Version)/8] {
		text := strconv.FormatInt(int64(b), 2)
		out.WriteString(strings.Repeat("0", 8-len(text)) + text)
	}
	return out.String()
}

func begun(p api.Prefix) string {
	return spelled(p.Addr)[:p.Bits]
}

// fromBits is the prefix that is spelled so.
func fromBits(version int, text string) api.Prefix {
	p := api.Prefix{Addr: api.Addr{Version: version}, Bits: len(text)}
	for i, c := range []byte(text) {
		if c == '1' {
			p.Addr.Bytes[i/8] |= 128 >> (i % 8)
		}
	}
	return p
}

// dice is a row of numbers that is the same each time.
type dice uint64

func (d *dice) roll(n int) int {
	*d = *d*6364136223846793005 + 1442695040888963407
	return int(uint64(*d) >> 33 % uint64(n))
}

// addr is an address that shares many first bits with others.
func (d *dice) addr(version int) api.Addr {
	a := api.Addr{Version: version}
	for i := range widthOf(version) / 8 {
		a.Bytes[i] = []byte{0, 10, 10, 11, 128, 255}[d.roll(6)]
		if d.roll(8) == 0 {
			a.Bytes[i] = byte(d.roll(256))
		}
	}
	return a
}

// prefix is one that is often short, and now and then of 0 bits or of all.
func (d *dice) prefix(version int) api.Prefix {
	width := widthOf(version)
	bits := []int{0, width, d.roll(width + 1), d.roll(13), d.roll(13), 8 + d.roll(9), d.roll(6)}[d.roll(7)]
	return fromBits(version, spelled(d.addr(version))[:bits])
}

// table is prefixes, as they are spelled, and their hops.
type table map[string]int

// longest is what a lookup has to tell.
func (m table) longest(x api.Addr) (api.Row, bool) {
	text := spelled(x)
	for k := len(text); k >= 0; k-- {
		if hop, ok := m[text[:k]]; ok {
			return api.Row{Prefix: fromBits(x.Version, text[:k]), Hop: hop}, true
		}
	}
	return api.Row{}, false
}

// rows is the table's rows in the order of prefixes. Texts stand in it of themselves when what is behind a prefix's bits is taken for noughts.
func (m table) rows(version int) []api.Row {
	var out []api.Row
	for _, text := range slices.SortedFunc(maps.Keys(m), func(x, y string) int {
		pad := func(s string) string { return s + strings.Repeat("0", 128-len(s)) }
		if c := strings.Compare(pad(x), pad(y)); c != 0 {
			return c
		}
		return len(x) - len(y)
	}) {
		out = append(out, api.Row{Prefix: fromBits(version, text), Hop: m[text]})
	}
	return out
}

// is fails a test, if an error is another one.
func is(t *testing.T, what string, err, want api.Errno) {
	t.Helper()
	if err != want {
		t.Errorf("%s: %d, not %d", what, err, want)
	}
}

func made(t *testing.T, n int) *arena.Arena {
	t.Helper()
	a, err := arena.New(n)
	if err != api.OK {
		t.Fatalf("New(%d): %d", n, err)
	}
	return a
}

// copied is an arena that is the same, and goes on by itself.
func copied(t *testing.T, a *arena.Arena) *arena.Arena {
	t.Helper()
	b, err := arena.Decode(a.Encode())
	if err != api.OK {
		t.Fatalf("Decode: %d", err)
	}
	return b
}

// block takes a block of a class, and lays words in it.
func block(t *testing.T, a *arena.Arena, class int, words ...uint32) int {
	t.Helper()
	place, err := a.Alloc(class)
	if err != api.OK {
		t.Fatalf("Alloc(%d): %d", class, err)
	}
	for i, x := range words {
		put(t, a, place, i, x)
	}
	return place
}

func put(t *testing.T, a *arena.Arena, place, i int, x uint32) {
	t.Helper()
	if err := a.Store(place, i, x); err != api.OK {
		t.Fatalf("Store(%d, %d): %d", place, i, err)
	}
}

// node lays a node's block.
func node(t *testing.T, a *arena.Arena, inner, outer uint32, results, children int) int {
	t.Helper()
	return block(t, a, 2, inner+outer*65536, uint32(results), uint32(children), 0)
}

// classFor is the least class with so many words.
func classFor(words int) int {
	class := 0
	for size := 1; size < words; size *= 2 {
		class++
	}
	return class
}

// insert and remove are Insert and Delete, which must not fail; what is retired is given back.
func insert(t *testing.T, a *arena.Arena, root int, rows ...api.Row) int {
	t.Helper()
	for _, h := range rows {
		next, retired, err := trie.Insert(a, root, h)
		if err != api.OK {
			t.Fatalf("Insert(%d, %v): %d", root, h, err)
		}
		giveBack(t, a, retired)
		root = next
	}
	return root
}

func remove(t *testing.T, a *arena.Arena, root int, p api.Prefix) int {
	t.Helper()
	next, retired, err := trie.Delete(a, root, p)
	if err != api.OK {
		t.Fatalf("Delete(%d, %v): %d", root, p, err)
	}
	giveBack(t, a, retired)
	return next
}

func giveBack(t *testing.T, a *arena.Arena, places []int) {
	t.Helper()
	for _, place := range places {
		if err := a.Free(place); err != api.OK {
			t.Fatalf("Free(%d): %d", place, err)
		}
	}
}

// taken is the places of all blocks that are taken.
func taken(a *arena.Arena) []int {
	var places []int
	for _, p := range a.Blocks() {
		places = append(places, p.Place)
	}
	return places
}

// reach is what Reach tells, which must not fail.
func reach(t *testing.T, a *arena.Arena, root, version int) []int {
	t.Helper()
	places, err := trie.Reach(a, root, version)
	if err != api.OK {
		t.Fatalf("Reach(%d, %d): %d", root, version, err)
	}
	return places
}

// holds fails a test, if the trie at a root is not just that table.
func holds(t *testing.T, a *arena.Arena, root, version int, want table) {
	t.Helper()
	if err := trie.Check(a, root, version); err != api.OK {
		t.Fatalf("Check(%d, %d): %d", root, version, err)
	}
	rows, err := trie.Walk(a, root, version)
	if err != api.OK || !slices.Equal(rows, want.rows(version)) {
		t.Fatalf("Walk(%d, %d): %v, %d, not %v", root, version, rows, err, want.rows(version))
	}
	if (root == 0) != (len(want) == 0) {
		t.Fatalf("the root of %d prefixes is %d", len(want), root)
	}
}

// looks fails a test, if a lookup of that address does not tell what the table tells.
func looks(t *testing.T, a *arena.Arena, root int, want table, x api.Addr) {
	t.Helper()
	h, found, err := trie.Lookup(a, root, x)
	if wantRow, wantFound := want.longest(x); h != wantRow || found != wantFound || err != api.OK {
		t.Fatalf("Lookup(%d, %v): %v, %t, %d, not %v, %t", root, x, h, found, err, wantRow, wantFound)
	}
}

// stays fails a test, if what is done changes a word of the arena.
func stays(t *testing.T, a *arena.Arena, what string, do func()) {
	t.Helper()
	was := a.Encode()
	do()
	if !bytes.Equal(a.Encode(), was) {
		t.Errorf("%s has changed the arena", what)
	}
}

func wrongVersions() []int {
	return []int{0, 1, 2, 3, 5, 7, 8, 16, 32, 128, 256 + 4, 256 + 6, 1<<32 + 4, -1, -4, -6, math.MinInt, math.MaxInt}
}

func wrongAddrs() []api.Addr {
	all := []api.Addr{{}, four(1, 2, 3, 4, 1), four(1, 2, 3, 4, 128), four(full(16)...), four(append(make([]byte, 15), 1)...)}
	for _, version := range wrongVersions() {
		all = append(all, addrOf(version, 10, 1, 2, 3))
	}
	return all
}

func wrongPrefixes() []api.Prefix {
	all := []api.Prefix{
		pre(four(), -1), pre(four(), 33), pre(four(), 128), pre(four(), math.MaxInt), pre(four(), math.MinInt),
		pre(six(), -1), pre(six(), 129), pre(six(), math.MaxInt), pre(six(), math.MinInt),
		pre(four(10, 1), 8), pre(four(10), 6), pre(four(128), 0), pre(four(255, 255, 255, 255), 31), pre(six(full(16)...), 127),
	}
	for _, a := range wrongAddrs() {
		all = append(all, pre(a, 0), pre(a, 8), pre(a, 32))
	}
	return all
}

// wrongPlaces is where no block of the arena is that is taken.
func wrongPlaces(a *arena.Arena) []int {
	all := []int{-1, -17, math.MinInt, math.MaxInt, 1 << 32, 1<<32 + 17, 1, 15, 16, len(a.Encode()) / 4, len(a.Encode())/4 - 1}
	for _, p := range a.Spare() {
		all = append(all, p.Place)
	}
	for _, p := range a.Blocks() {
		all = append(all, p.Place-1, -p.Place)
		if p.Class > 0 {
			all = append(all, p.Place+1)
		}
	}
	return slices.DeleteFunc(all, func(place int) bool {
		_, there := a.Class(place)
		return there
	})
}

// wordsOf is all words of an arena.
func wordsOf(a *arena.Arena) []uint32 {
	var out []uint32
	for b := a.Encode(); len(b) >= 4; b = b[4:] {
		out = append(out, binary.BigEndian.Uint32(b))
	}
	return out
}
