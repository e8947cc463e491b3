package table_test

import (
	"bytes"
	"maps"
	"math"
	"slices"
	"strconv"
	"strings"
	"testing"

	"junctionbox/api"
	"junctionbox/table"
)

// four and six are addresses of bytes; those that are not told are noughts.
func four(b ...byte) api.Addr {
	return addrOf(4, b...)
}

func six(b ...byte) api.Addr {
	return addrOf(6, b...)
}

func addrOf(version int, b ...byte) api.Addr {
	a := api.Addr{Version: version}
	copy(a.Bytes[:], b)
	return a
}

func pre(a api.Addr, bits int) api.Prefix {
	return api.Prefix{Addr: a, Bits: bits}
}

func row(a api.Addr, bits, hop int) api.Row {
	return api.Row{Prefix: pre(a, bits), Hop: hop}
}

// tableOf is a table of rows as they come, right or not.
func tableOf(rows ...api.Row) api.Table {
	return api.Table{Rows: rows}
}

// full is so many bytes of ones.
func full(n int) []byte {
	return bytes.Repeat([]byte{255}, n)
}

func widthOf(version int) int {
	return map[int]int{4: 32, 6: 128}[version]
}

// name is an address or a prefix as a text: its version, and its first bits as 0 and 1. A prefix contains whatever has a name that begins with its own.
func name(a api.Addr, bits int) string {
	var out strings.Builder
	for _, b := range a.Bytes {
		text := strconv.FormatInt(int64(b), 2)
		out.WriteString(strings.Repeat("0", 8-len(text)) + text)
	}
	return strconv.Itoa(a.Version) + out.String()[:bits]
}

// named is the prefix of a name.
func named(text string) api.Prefix {
	p := api.Prefix{Addr: api.Addr{Version: int(text[0] - '0')}, Bits: len(text) - 1}
	for i, c := range []byte(text[1:]) {
		if c == '1' {
			p.Addr.Bytes[i/8] |= 128 >> (i % 8)
		}
	}
	return p
}

// model is a table as the chapter's words are read once more: hops by names.
type model map[string]int

// rising is its names in the order of prefixes: as texts with noughts behind them, then the shorter ones first.
func (m model) rising() []string {
	return slices.SortedFunc(maps.Keys(m), func(x, y string) int {
		padded := func(text string) string { return text + strings.Repeat("0", 129-len(text)) }
		if by := strings.Compare(padded(x), padded(y)); by != 0 {
			return by
		}
		return len(x) - len(y)
	})
}

func (m model) table() api.Table {
	var t api.Table
	for _, text := range m.rising() {
		t.Rows = append(t.Rows, api.Row{Prefix: named(text), Hop: m[text]})
	}
	return t
}

// longest is the longest name with which that of an address begins; "": none.
func (m model) longest(a api.Addr) string {
	whole := name(a, widthOf(a.Version))
	for n := len(whole); n > 0; n-- {
		if _, there := m[whole[:n]]; there {
			return whole[:n]
		}
	}
	return ""
}

// wire is the bytes of rows, whatever they are, as the chapter lays them.
func wire(rows ...api.Row) []byte {
	out := []byte{byte(len(rows))}
	for _, r := range rows {
		out = append(out, byte(r.Prefix.Addr.Version), byte(r.Prefix.Bits))
		out = append(out, r.Prefix.Addr.Bytes[:(r.Prefix.Bits+7)/8]...)
		out = append(out, byte(r.Hop))
	}
	return out
}

// dice is a row of numbers that is the same each time.
type dice uint64

func (d *dice) roll(n int) int {
	*d = *d*6364136223846793005 + 1442695040888963407
	return int(uint64(*d) >> 33 % uint64(n))
}

// addr is one of addresses that share many first bits.
func (d *dice) addr() api.Addr {
	a := api.Addr{Version: 4 + 2*d.roll(2)}
	for i := range 2 {
		a.Bytes[i] = []byte{0, 10, 128, 255}[d.roll(4)]
	}
	a.Bytes[widthOf(a.Version)/8-1] = byte(d.roll(4))
	return a
}

// prefix is one of those that contain such addresses; those of few bits come often.
func (d *dice) prefix() api.Prefix {
	a := d.addr()
	bits := d.roll(20)
	if d.roll(4) == 0 {
		bits = d.roll(widthOf(a.Version) + 1)
	}
	return named(name(a, bits))
}

// model has about so many rows.
func (d *dice) model(n int) model {
	m := model{}
	for range n {
		p := d.prefix()
		m[name(p.Addr, p.Bits)] = 1 + d.roll(3)
	}
	return m
}

// rows is so many rows of version 6 that may stand in one table, if that may have so many.
func rows(n int) []api.Row {
	var list []api.Row
	for i := range n {
		list = append(list, row(six(0x20, byte(i)), 16, 1+i%api.MaxHop))
	}
	return list
}

// example is the chapter's t.
func example() api.Table {
	return tableOf(row(four(10), 8, 1), row(four(10, 1), 16, 2))
}

// rightTables and wrongTables: what may be, and what may not.
func rightTables() []api.Table {
	list := []api.Table{
		{}, {Rows: []api.Row{}}, example(),
		tableOf(row(four(), 0, 1)), tableOf(row(four(), 0, 255)), tableOf(row(six(), 0, 1), row(six(full(16)...), 128, 1)),
		tableOf(row(four(), 0, 1), row(four(), 1, 1), row(four(), 32, 1), row(four(128), 1, 1), row(four(full(4)...), 32, 1), row(six(), 0, 1), row(six(), 128, 1)),
		tableOf(row(four(full(4)...), 32, 9), row(six(), 0, 9)),
		tableOf(rows(39)...), tableOf(rows(40)...),
	}
	var d dice
	for range 30 {
		list = append(list, d.model(d.roll(40)).table())
	}
	return list
}

func wrongTables() []api.Table {
	list := []api.Table{
		tableOf(rows(41)...), tableOf(rows(200)...),
		tableOf(row(four(10), 8, 1), row(four(10), 8, 1)),
		tableOf(row(four(10), 8, 1), row(four(10), 8, 2)),
		tableOf(row(four(10, 1), 16, 1), row(four(10), 8, 1)),
		tableOf(row(four(10), 16, 1), row(four(10), 8, 1)),
		tableOf(row(six(), 0, 1), row(four(10), 8, 1)),
		tableOf(row(four(9), 8, 1), row(four(11), 8, 1), row(four(10), 8, 1)),
		tableOf(row(four(9), 8, 1), row(four(10), 8, 1), row(four(9), 8, 1)),
	}
	for _, hop := range wrongHops() {
		list = append(list, tableOf(row(four(10), 8, hop)), tableOf(row(four(10), 8, 1), row(four(11), 8, hop)), tableOf(row(four(9), 8, hop), row(four(10), 8, 1)))
	}
	for _, p := range wrongPrefixes() {
		list = append(list, tableOf(api.Row{Prefix: p, Hop: 1}))
	}
	return append(list, tableOf(row(four(9), 8, 1), row(four(10, 1), 8, 1), row(four(11), 8, 1)))
}

func wrongHops() []int {
	return []int{0, -1, 256, 257, 511, 1<<32 + 1, math.MinInt, math.MaxInt}
}

func wrongPrefixes() []api.Prefix {
	list := []api.Prefix{
		pre(four(), -1), pre(four(), 33), pre(four(10, 1), 8), pre(four(1, 2, 3, 4, 5), 32), pre(four(), math.MaxInt), pre(four(), math.MinInt),
		pre(six(), -1), pre(six(), 129), pre(six(full(16)...), 127), pre(six(1), 0),
	}
	for _, version := range []int{0, 1, 5, 7, -4, 260, math.MinInt, math.MaxInt} {
		list = append(list, pre(addrOf(version), 0), pre(addrOf(version, 10), 8))
	}
	return list
}

func wrongAddrs() []api.Addr {
	list := []api.Addr{four(1, 2, 3, 4, 5), four(append(make([]byte, 15), 1)...)}
	for _, version := range []int{0, 1, 5, 7, -4, 260, math.MinInt, math.MaxInt} {
		list = append(list, addrOf(version), addrOf(version, 10, 1, 2, 3))
	}
	return list
}

// is fails a test, if a table is not as it should be.
func is(t *testing.T, what string, got, want api.Table) {
	t.Helper()
	if !slices.Equal(got.Rows, want.Rows) {
		t.Errorf("%s: %v, not %v", what, got, want)
	}
}

// mustSet is the table behind it.
func mustSet(t *testing.T, of api.Table, p api.Prefix, hop int) api.Table {
	t.Helper()
	out, err := table.Set(of, p, hop)
	if err != api.OK {
		t.Fatalf("Set(%v, %v, %d): %d", of, p, hop, err)
	}
	return out
}

// copied is the same table in other memory, with rows behind its end that nobody is to touch.
func copied(of api.Table) (api.Table, []api.Row) {
	room := slices.Concat(of.Rows, []api.Row{row(four(77), 8, 7), row(four(78), 8, 8)})
	return api.Table{Rows: room[:len(of.Rows)]}, room
}
