package prefix_test

import (
	"bytes"
	"slices"
	"testing"

	"junctionbox/api"
	"junctionbox/prefix"
)

// wireOf is a prefix's bytes, laid by hand.
func wireOf(p api.Prefix) []byte {
	b := []byte{byte(p.Addr.Version), byte(p.Bits)}
	for i := 0; 8*i < p.Bits; i++ {
		b = append(b, p.Addr.Bytes[i])
	}
	return b
}

// wrongBytes are bytes that begin with nothing right, and the error that says why.
type wrongBytes struct {
	b    []byte
	want api.Errno
}

func refused(t *testing.T, q wrongBytes) {
	t.Helper()
	was := slices.Clone(q.b)
	if p, n, err := prefix.Decode(q.b); err != q.want || n != 0 || p != (api.Prefix{}) {
		t.Errorf("Decode(%x): %v, %d, %d; want %d", q.b, p, n, err, q.want)
	}
	if !bytes.Equal(q.b, was) {
		t.Errorf("Decode has changed %x to %x", was, q.b)
	}
}

func refusedAddr(t *testing.T, q wrongBytes) {
	t.Helper()
	if a, n, err := prefix.DecodeAddr(q.b); err != q.want || n != 0 || a != (api.Addr{}) {
		t.Errorf("DecodeAddr(%x): %v, %d, %d; want %d", q.b, a, n, err, q.want)
	}
}

// P5.4

func TestEncode(t *testing.T) {
	for _, q := range []struct {
		p    api.Prefix
		want []byte
	}{
		{row(four(10, 128), 9), []byte{4, 9, 10, 128}},
		{row(six(), 0), []byte{6, 0}},
		{row(four(), 0), []byte{4, 0}},
		{row(four(10), 8), []byte{4, 8, 10}},
		{row(four(10), 9), []byte{4, 9, 10, 0}},
		{row(four(128), 1), []byte{4, 1, 128}},
		{row(four(10, 1, 2, 3), 32), []byte{4, 32, 10, 1, 2, 3}},
		{row(six(0x20, 1, 0xd, 0xb8), 32), []byte{6, 32, 0x20, 1, 0xd, 0xb8}},
		{row(six(full(16)...), 128), append([]byte{6, 128}, full(16)...)},
	} {
		if got, err := prefix.Encode(q.p); !bytes.Equal(got, q.want) || err != api.OK {
			t.Errorf("Encode(%v): %x, %d", q.p, got, err)
		}
	}
	for _, p := range wrongOnes() {
		if got, err := prefix.Encode(p); got != nil || err != api.ErrPrefix {
			t.Errorf("Encode(%v): %x, %d", p, got, err)
		}
	}
}

func TestEncodeAddr(t *testing.T) {
	for _, q := range []struct {
		a    api.Addr
		want []byte
	}{
		{four(10, 1, 2, 3), []byte{4, 10, 1, 2, 3}},
		{four(), []byte{4, 0, 0, 0, 0}},
		{six(), append([]byte{6}, make([]byte, 16)...)},
		{six(full(16)...), append([]byte{6}, full(16)...)},
		{six(1, 2, 3, 4, 5, 6, 7, 8, 9, 10, 11, 12, 13, 14, 15, 16), []byte{6, 1, 2, 3, 4, 5, 6, 7, 8, 9, 10, 11, 12, 13, 14, 15, 16}},
	} {
		if got, err := prefix.EncodeAddr(q.a); !bytes.Equal(got, q.want) || err != api.OK {
			t.Errorf("EncodeAddr(%v): %x, %d", q.a, got, err)
		}
	}
	for _, a := range wrongAddrs() {
		if got, err := prefix.EncodeAddr(a); got != nil || err != api.ErrAddr {
			t.Errorf("EncodeAddr(%v): %x, %d", a, got, err)
		}
	}
}

func TestEncodeAnswersNewMemory(t *testing.T) {
	first, _ := prefix.Encode(row(four(10), 8))
	second, _ := prefix.Encode(row(four(10), 8))
	first[0], first[2] = 99, 99
	if !bytes.Equal(second, []byte{4, 8, 10}) {
		t.Errorf("two answers share memory: %x", second)
	}
	firstAddr, _ := prefix.EncodeAddr(four(10))
	secondAddr, _ := prefix.EncodeAddr(four(10))
	firstAddr[1] = 99
	if !bytes.Equal(secondAddr, []byte{4, 10, 0, 0, 0}) {
		t.Errorf("two answers share memory: %x", secondAddr)
	}
}

func TestDecode(t *testing.T) {
	for _, q := range []struct {
		b    []byte
		want api.Prefix
		size int
	}{
		{[]byte{4, 9, 10, 128}, row(four(10, 128), 9), 4},
		{[]byte{4, 0}, row(four(), 0), 2},
		{[]byte{6, 0}, row(six(), 0), 2},
		{[]byte{6, 0, 255, 255}, row(six(), 0), 2},
		{[]byte{4, 8, 10, 1, 2, 3}, row(four(10), 8), 3},
		{[]byte{4, 32, 10, 1, 2, 3, 4, 8}, row(four(10, 1, 2, 3), 32), 6},
		{[]byte{6, 1, 128, 4, 33}, row(six(128), 1), 3},
		{append([]byte{6, 128}, full(40)...), row(six(full(16)...), 128), 18},
		{append([]byte{6, 127}, append(full(15), 254, 255)...), row(six(append(full(15), 254)...), 127), 18},
	} {
		if got, n, err := prefix.Decode(q.b); got != q.want || n != q.size || err != api.OK {
			t.Errorf("Decode(%x): %v, %d, %d", q.b, got, n, err)
		}
	}
}

func TestDecodeAddr(t *testing.T) {
	for _, q := range []struct {
		b    []byte
		want api.Addr
		size int
	}{
		{[]byte{4, 10, 1, 2, 3}, four(10, 1, 2, 3), 5},
		{[]byte{4, 10, 1, 2, 3, 255}, four(10, 1, 2, 3), 5},
		{append([]byte{4}, full(30)...), four(full(4)...), 5},
		{append([]byte{6}, make([]byte, 16)...), six(), 17},
		{append([]byte{6}, full(17)...), six(full(16)...), 17},
		{append([]byte{6}, full(60)...), six(full(16)...), 17},
	} {
		if got, n, err := prefix.DecodeAddr(q.b); got != q.want || n != q.size || err != api.OK {
			t.Errorf("DecodeAddr(%x): %v, %d, %d", q.b, got, n, err)
		}
	}
}

func TestDecodeWrongBytes(t *testing.T) {
	for _, q := range []wrongBytes{
		{nil, api.ErrShort},
		{[]byte{}, api.ErrShort},
		{[]byte{4}, api.ErrShort},
		{[]byte{6}, api.ErrShort},
		{[]byte{4, 1}, api.ErrShort},
		{[]byte{4, 9, 10}, api.ErrShort},
		{[]byte{4, 9, 255}, api.ErrShort},
		{[]byte{4, 32, 10, 1, 2}, api.ErrShort},
		{append([]byte{6, 128}, full(15)...), api.ErrShort},
		{[]byte{0}, api.ErrPrefix},
		{[]byte{5}, api.ErrPrefix},
		{[]byte{5, 0}, api.ErrPrefix},
		{[]byte{5, 8, 10}, api.ErrPrefix},
		{[]byte{255, 255}, api.ErrPrefix},
		{[]byte{4, 33}, api.ErrPrefix},
		{[]byte{4, 33, 1, 2, 3, 4, 5, 6}, api.ErrPrefix},
		{[]byte{4, 128}, api.ErrPrefix},
		{[]byte{4, 255}, api.ErrPrefix},
		{[]byte{6, 129}, api.ErrPrefix},
		{append([]byte{6, 129}, full(40)...), api.ErrPrefix},
		{append([]byte{6, 255}, full(40)...), api.ErrPrefix},
		{[]byte{4, 9, 10, 129}, api.ErrPrefix},
		{[]byte{4, 9, 10, 64}, api.ErrPrefix},
		{[]byte{4, 1, 64}, api.ErrPrefix},
		{[]byte{4, 31, 10, 1, 2, 1}, api.ErrPrefix},
		{append([]byte{6, 127}, full(16)...), api.ErrPrefix},
		{append([]byte{6, 121}, full(20)...), api.ErrPrefix},
		{[]byte{6, 17, 0x20, 1, 1, 255}, api.ErrPrefix},
	} {
		refused(t, q)
	}
}

func TestDecodeAddrWrongBytes(t *testing.T) {
	for _, q := range []wrongBytes{
		{nil, api.ErrShort},
		{[]byte{}, api.ErrShort},
		{[]byte{4}, api.ErrShort},
		{[]byte{4, 1, 2, 3}, api.ErrShort},
		{[]byte{6}, api.ErrShort},
		{append([]byte{6}, full(15)...), api.ErrShort},
		{[]byte{0}, api.ErrAddr},
		{[]byte{5}, api.ErrAddr},
		{[]byte{5, 1, 2, 3, 4}, api.ErrAddr},
		{append([]byte{255}, full(40)...), api.ErrAddr},
	} {
		refusedAddr(t, q)
	}
}

func TestDecodeAsksEachVersionAndBits(t *testing.T) {
	for version := range 256 {
		width := widthOf(version)
		for bits := range 256 {
			b := append([]byte{byte(version), byte(bits)}, make([]byte, 40)...)
			if width == 0 || bits > width {
				refused(t, wrongBytes{b, api.ErrPrefix})
				refused(t, wrongBytes{b[:2], api.ErrPrefix})
				continue
			}
			if p, n, err := prefix.Decode(b); p != row(addrOf(version), bits) || n != 2+(bits+7)/8 || err != api.OK {
				t.Errorf("Decode(%x): %v, %d, %d", b, p, n, err)
			}
		}
		if width == 0 {
			refused(t, wrongBytes{[]byte{byte(version)}, api.ErrPrefix})
			refusedAddr(t, wrongBytes{append([]byte{byte(version)}, make([]byte, 40)...), api.ErrAddr})
		}
	}
}

func TestDecodeAsksEachBitBehindBits(t *testing.T) {
	for _, version := range []int{4, 6} {
		for bits := range widthOf(version) + 1 {
			for i := bits; i < (bits+7)/8*8; i++ {
				b := wireOf(row(addrOf(version), bits))
				b[2+i/8] |= 128 >> (i % 8)
				refused(t, wrongBytes{b, api.ErrPrefix})
				refused(t, wrongBytes{append(b, 0, 0), api.ErrPrefix})
				refused(t, wrongBytes{b[:len(b)-1], api.ErrShort})
			}
		}
	}
}

func TestDecodeChangesNothingHandedIn(t *testing.T) {
	room := append([]byte{4, 9, 10, 128, 7}, full(30)...)
	was := slices.Clone(room)
	prefix.Decode(room[:4])
	prefix.Decode(room[:3])
	prefix.DecodeAddr(room[:5])
	prefix.DecodeAddr(room[:2])
	if !bytes.Equal(room, was) {
		t.Errorf("what was handed in is now %x", room)
	}
	if p, n, err := prefix.Decode(room[:3]); err != api.ErrShort || n != 0 || p != (api.Prefix{}) {
		t.Errorf("the room behind the end was read: %v, %d, %d", p, n, err)
	}
}

// P5.5: Decode of Encode is the same, Encode of Decode the bytes; less of them is ErrShort.

func TestDecodeOfEncode(t *testing.T) {
	for _, p := range rightOnes() {
		b, err := prefix.Encode(p)
		if err != api.OK || !bytes.Equal(b, wireOf(p)) {
			t.Fatalf("Encode(%v): %x, %d", p, b, err)
		}
		for _, behind := range [][]byte{nil, {0}, {4, 8, 10}, full(30)} {
			if got, n, err := prefix.Decode(slices.Concat(b, behind)); got != p || n != len(b) || err != api.OK {
				t.Fatalf("Decode(%x, and %x behind it): %v, %d, %d", b, behind, got, n, err)
			}
		}
		for i := range b {
			refused(t, wrongBytes{b[:i], api.ErrShort})
		}
	}
}

func TestDecodeAddrOfEncodeAddr(t *testing.T) {
	for _, a := range rightAddrs() {
		b, err := prefix.EncodeAddr(a)
		if err != api.OK || len(b) != 1+widthOf(a.Version)/8 {
			t.Fatalf("EncodeAddr(%v): %x, %d", a, b, err)
		}
		for _, behind := range [][]byte{nil, {0}, {4, 8, 10}, full(30)} {
			if got, n, err := prefix.DecodeAddr(slices.Concat(b, behind)); got != a || n != len(b) || err != api.OK {
				t.Fatalf("DecodeAddr(%x, and %x behind it): %v, %d, %d", b, behind, got, n, err)
			}
		}
		for i := range b {
			refusedAddr(t, wrongBytes{b[:i], api.ErrShort})
		}
	}
}

func TestEncodeOfDecode(t *testing.T) {
	var d dice
	count := 0
	for range 60000 {
		b := []byte{[]byte{4, 6, 4, 6, 5}[d.roll(5)], byte(d.roll(140))}
		for range d.roll(24) {
			b = append(b, []byte{0, 0, 0, 128, 192, 255, 10}[d.roll(7)])
		}
		p, n, err := prefix.Decode(b)
		if err == api.OK {
			count++
			if again, err := prefix.Encode(p); err != api.OK || !bytes.Equal(again, b[:n]) {
				t.Fatalf("Encode of Decode(%x): %x, %d", b, again, err)
			}
		}
		if a, n, err := prefix.DecodeAddr(b); err == api.OK {
			if again, err := prefix.EncodeAddr(a); err != api.OK || !bytes.Equal(again, b[:n]) {
				t.Fatalf("EncodeAddr of DecodeAddr(%x): %x, %d", b, again, err)
			}
		}
	}
	if count < 1000 {
		t.Errorf("only %d of them are prefixes", count)
	}
}

func TestRowsOfPrefixesComeOneByOne(t *testing.T) {
	all := rightOnes()
	var b []byte
	for _, p := range all {
		one, _ := prefix.Encode(p)
		b = append(b, one...)
	}
	for _, want := range all {
		p, n, err := prefix.Decode(b)
		if p != want || err != api.OK {
			t.Fatalf("%v came as %v, %d", want, p, err)
		}
		b = b[n:]
	}
	if len(b) != 0 {
		t.Errorf("%d bytes are left", len(b))
	}
}
