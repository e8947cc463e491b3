package prefix_test

import (
	"bytes"
	"strings"
	"testing"

	"junctionbox/api"
	"junctionbox/prefix"
)

// four and six are addresses of bytes; those that are not told are noughts.
func four(b ...byte) api.Addr {
	return addrOf(4, b...)
}

func six(b ...byte) api.Addr {
	return addrOf(6, b...)
}

func addrOf(version int, b ...byte) api.Addr {
	a := api.Addr{Version: version}
	copy(a.Bytes[:], b)
	return a
}

// row is a prefix, right or not.
func row(a api.Addr, bits int) api.Prefix {
	return api.Prefix{Addr: a, Bits: bits}
}

// full is so many bytes of ones.
func full(n int) []byte {
	return bytes.Repeat([]byte{255}, n)
}

// spelled is an address's bits as a text of 0 and 1, from which all else is told anew.
func spelled(a api.Addr) string {
	var out strings.Builder
	for _, b := range a.Bytes[:widthOf(a.Version)/8] {
		for i := 7; i >= 0; i-- {
			out.WriteByte('0' + b>>i&1)
		}
	}
	return out.String()
}

func widthOf(version int) int {
	switch version {
	case 4:
		return 32
	case 6:
		return 128
	}
	return 0
}

// fromBits is the address that such a text begins; the rest are noughts.
func fromBits(version int, text string) api.Addr {
	a := api.Addr{Version: version}
	for i, c := range []byte(text) {
		a.Bytes[i/8] |= (c - '0') << (7 - i%8)
	}
	return a
}

// begun is the bits that are told of a prefix.
func begun(p api.Prefix) string {
	return spelled(p.Addr)[:p.Bits]
}

// dice are numbers in a row that is always the same.
type dice uint64

func (d *dice) roll(n int) int {
	*d = *d*6364136223846793005 + 1442695040888963407
	return int(uint64(*d) >> 33 % uint64(n))
}

// addr is an address that shares many first bits with others: its bytes are a few.
func (d *dice) addr() api.Addr {
	version := 4 + 2*d.roll(2)
	a := api.Addr{Version: version}
	for i := range widthOf(version) / 8 {
		a.Bytes[i] = []byte{0, 0, 10, 128, 255, 1}[d.roll(6)]
	}
	return a
}

// prefix is one that is right.
func (d *dice) prefix() api.Prefix {
	a := d.addr()
	bits := d.roll(widthOf(a.Version) + 1)
	return row(fromBits(a.Version, spelled(a)[:bits]), bits)
}

// rightAddrs and wrongAddrs, rightOnes and wrongOnes: what may be, and what may not.
func rightAddrs() []api.Addr {
	all := []api.Addr{
		four(), four(10, 1, 2, 3), four(255, 255, 255, 255), four(0, 0, 0, 1), four(128), four(127, 255, 255, 255),
		six(), six(0x20, 1, 0xd, 0xb8), six(full(16)...), six(128), six(0, 0, 0, 0, 1), six(10, 1, 2, 3),
	}
	return append(all, fromBits(6, strings.Repeat("0", 127)+"1"), fromBits(4, strings.Repeat("10", 16)), fromBits(6, strings.Repeat("01", 64)))
}

func wrongAddrs() []api.Addr {
	all := []api.Addr{four(1, 2, 3, 4, 1), four(1, 2, 3, 4, 128), four(0, 0, 0, 0, 0, 1), four(full(16)...), four(append(make([]byte, 15), 1)...)}
	for _, version := range wrongVersions() {
		all = append(all, addrOf(version), addrOf(version, 10, 1, 2, 3), addrOf(version, full(16)...))
	}
	return all
}

func wrongVersions() []int {
	return []int{0, 1, 2, 3, 5, 7, 8, 16, 32, 128, 256 + 4, 256 + 6, 1<<32 + 4, -1, -4, -6, -1 << 63, 1<<63 - 1}
}

func rightOnes() []api.Prefix {
	var all []api.Prefix
	for _, a := range rightAddrs() {
		for bits := range widthOf(a.Version) + 1 {
			all = append(all, row(fromBits(a.Version, spelled(a)[:bits]), bits))
		}
	}
	return all
}

func wrongOnes() []api.Prefix {
	all := []api.Prefix{
		row(four(), -1), row(four(), 33), row(four(), 128), row(four(), 1<<63-1), row(four(), -1<<63), row(four(), -8),
		row(six(), -1), row(six(), 129), row(six(), 256), row(six(), 1<<63-1), row(six(), -1<<63),
		row(four(10, 1), 8), row(four(10), 6), row(four(10, 129), 15), row(four(128), 0), row(four(255, 255, 255, 255), 31), row(four(0, 0, 0, 1), 0),
		row(six(128), 0), row(six(full(16)...), 127), row(six(append(make([]byte, 15), 1)...), 127), row(six(append(make([]byte, 15), 1)...), 64), row(six(0x20, 1), 15),
	}
	for _, a := range wrongAddrs() {
		all = append(all, row(a, 0), row(a, 8), row(a, 32), row(a, 128))
	}
	return all
}

// mayBe fails a test whose own prefixes are not what they are said to be.
func mayBe(t *testing.T, all ...api.Prefix) {
	t.Helper()
	for _, p := range all {
		if prefix.Check(p) != api.OK {
			t.Fatalf("Check(%v): %d", p, prefix.Check(p))
		}
	}
}
