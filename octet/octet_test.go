package octet_test

import (
	"bytes"
	"cmp"
	"math"
	"slices"
	"testing"

	"junctionbox/api"
	"junctionbox/octet"
)

// numbers are the edges of all widths, and numbers whose bytes are all different.
var numbers = []uint64{
	0, 1, 2, 0x7f, 0x80, 0xff, 0x100, 0x101, 0x1ff, 0x7fff, 0x8000, 0xff00, 0xffff,
	0x10000, 0x1020304, 0x7fffffff, 0x80000000, 0xff000000, 0xffffffff,
	0x100000000, 0x102030405060708, 0x8090a0b0c0d0e0f, 0x7fffffffffffffff,
	0x8000000000000000, 0xf0e1d2c3b4a59687, 0xff00000000000000, math.MaxUint64,
}

// widths are the calls that lay a number, and take it off again.
var widths = []struct {
	bytes int
	put   func(b []byte, x uint64) []byte
	take  func(r *octet.Reader) uint64
}{
	{1, func(b []byte, x uint64) []byte { return append(slices.Clone(b), byte(x)) }, func(r *octet.Reader) uint64 { return uint64(r.U8()) }},
	{2, func(b []byte, x uint64) []byte { return octet.Put16(b, uint16(x)) }, func(r *octet.Reader) uint64 { return uint64(r.U16()) }},
	{4, func(b []byte, x uint64) []byte { return octet.Put32(b, uint32(x)) }, func(r *octet.Reader) uint64 { return uint64(r.U32()) }},
	{8, func(b []byte, x uint64) []byte { return octet.Put64(b, x) }, func(r *octet.Reader) uint64 { return r.U64() }},
}

// cut is what of x goes in so many bytes.
func cut(x uint64, width int) uint64 {
	if width == 8 {
		return x
	}
	return x % (1 << (8 * width))
}

// wireOf is 1, 2, 3 .. , so many bytes.
func wireOf(n int) []byte {
	b := make([]byte, n)
	for i := range b {
		b[i] = byte(i + 1)
	}
	return b
}

// P1.1

func TestPutLaysTheHighestByteFirst(t *testing.T) {
	for _, q := range []struct{ got, want []byte }{
		{octet.Put16(nil, 0), []byte{0, 0}},
		{octet.Put16(nil, 1), []byte{0, 1}},
		{octet.Put16(nil, 0x102), []byte{1, 2}},
		{octet.Put16(nil, 0xffff), []byte{255, 255}},
		{octet.Put16([]byte{}, 0x80ff), []byte{0x80, 0xff}},
		{octet.Put16([]byte{7}, 1), []byte{7, 0, 1}},
		{octet.Put32(nil, 0), []byte{0, 0, 0, 0}},
		{octet.Put32(nil, 16909060), []byte{1, 2, 3, 4}},
		{octet.Put32(nil, 0xffffffff), []byte{255, 255, 255, 255}},
		{octet.Put32([]byte{9, 8}, 0x80000001), []byte{9, 8, 0x80, 0, 0, 1}},
		{octet.Put64(nil, 0), []byte{0, 0, 0, 0, 0, 0, 0, 0}},
		{octet.Put64(nil, 0x102030405060708), []byte{1, 2, 3, 4, 5, 6, 7, 8}},
		{octet.Put64(nil, math.MaxUint64), bytes.Repeat([]byte{255}, 8)},
		{octet.Put64([]byte{0, 0, 5}, 0x8000000000000001), []byte{0, 0, 5, 0x80, 0, 0, 0, 0, 0, 0, 1}},
	} {
		if !bytes.Equal(q.got, q.want) {
			t.Errorf("got %v, want %v", q.got, q.want)
		}
	}
}

func TestPutAnswersANewList(t *testing.T) {
	for _, w := range widths[1:] {
		room := []byte{1, 2, 3, 44, 45, 46, 47, 48, 49, 50, 51, 52}
		was := slices.Clone(room)
		b := room[:3]
		first := w.put(b, 0x1111111111111111)
		second := w.put(b, 0x2222222222222222)
		if !bytes.Equal(room, was) {
			t.Errorf("width %d: what was handed in, or the room behind it, is now %v", w.bytes, room)
		}
		if !bytes.Equal(first, append([]byte{1, 2, 3}, bytes.Repeat([]byte{0x11}, w.bytes)...)) {
			t.Errorf("width %d: the second call has changed the first one's answer: %v", w.bytes, first)
		}
		for i := range first {
			first[i] = 99
		}
		if !bytes.Equal(room, was) || second[0] != 1 {
			t.Errorf("width %d: an answer shares memory", w.bytes)
		}
	}
}

// P1.2

func TestEqual(t *testing.T) {
	for _, q := range []struct {
		a, b []byte
		want bool
	}{
		{nil, nil, true},
		{nil, []byte{}, true},
		{[]byte{}, nil, true},
		{[]byte{}, []byte{}, true},
		{nil, []byte{0}, false},
		{[]byte{0}, nil, false},
		{[]byte{0}, []byte{0}, true},
		{[]byte{0}, []byte{1}, false},
		{[]byte{1, 2, 3}, []byte{1, 2, 3}, true},
		{[]byte{1, 2, 3}, []byte{1, 2}, false},
		{[]byte{1, 2}, []byte{1, 2, 3}, false},
		{[]byte{1, 2, 0}, []byte{1, 2}, false},
		{[]byte{9, 2, 3}, []byte{1, 2, 3}, false},
		{[]byte{1, 9, 3}, []byte{1, 2, 3}, false},
		{[]byte{1, 2, 9}, []byte{1, 2, 3}, false},
		{[]byte{3, 2, 1}, []byte{1, 2, 3}, false},
		{make([]byte, 2, 9), make([]byte, 2), true},
	} {
		if got := octet.Equal(q.a, q.b); got != q.want {
			t.Errorf("Equal(%v, %v): %v", q.a, q.b, got)
		}
	}
}

func TestEqualOfItself(t *testing.T) {
	b := wireOf(5)
	if !octet.Equal(b, b) || octet.Equal(b[:4], b[1:]) || !octet.Equal(b[1:3], b[1:3]) {
		t.Error("Equal of parts of one list")
	}
}

func TestBit(t *testing.T) {
	for _, q := range []struct {
		b    []byte
		k    int
		want bool
	}{
		{[]byte{1, 0}, 8, true},
		{[]byte{1, 0}, 0, false},
		{[]byte{0x80}, 7, true},
		{[]byte{0x80}, 0, false},
		{[]byte{1}, 0, true},
		{[]byte{1}, 7, false},
		{[]byte{0x80, 0, 0}, 23, true},
		{[]byte{0x80, 0, 0}, 22, false},
		{[]byte{0, 0x10, 0}, 12, true},
	} {
		if got := octet.Bit(q.b, q.k); got != q.want {
			t.Errorf("Bit(%v, %d): %v", q.b, q.k, got)
		}
	}
}

func TestBitThatIsNotThere(t *testing.T) {
	for n := range 4 {
		b := bytes.Repeat([]byte{255}, n)
		for _, k := range []int{-1, -7, -8, -9, -1000, math.MinInt, math.MinInt + 1, 8 * n, 8*n + 1, 8*n + 7, 8*n + 8, math.MaxInt - 7, math.MaxInt} {
			if octet.Bit(b, k) {
				t.Errorf("Bit(%v, %d): there is no such bit", b, k)
			}
		}
		for k := range 8 * n {
			if !octet.Bit(b, k) {
				t.Errorf("Bit(%v, %d): it is 1", b, k)
			}
		}
	}
	if octet.Bit(nil, 0) {
		t.Error("Bit(nil, 0)")
	}
}

// P1.3

func TestReadTakesNumbersOff(t *testing.T) {
	r := octet.Read([]byte{9, 1, 2, 1, 2, 3, 4, 1, 2, 3, 4, 5, 6, 7, 8, 40, 41, 42})
	if x := r.U8(); x != 9 {
		t.Errorf("U8: %d", x)
	}
	if x := r.U16(); x != 0x102 {
		t.Errorf("U16: %x", x)
	}
	if x := r.U32(); x != 0x1020304 {
		t.Errorf("U32: %x", x)
	}
	if x := r.U64(); x != 0x102030405060708 {
		t.Errorf("U64: %x", x)
	}
	if b := r.Raw(2); !bytes.Equal(b, []byte{40, 41}) {
		t.Errorf("Raw(2): %v", b)
	}
	if b := r.Raw(0); len(b) != 0 || r.Left() != 1 {
		t.Errorf("Raw(0): %v, %d left", b, r.Left())
	}
	if b := r.Raw(1); !bytes.Equal(b, []byte{42}) || r.Left() != 0 || r.Err() != api.OK {
		t.Errorf("Raw(1): %v, %d left, %d", b, r.Left(), r.Err())
	}
	if b := r.Raw(0); len(b) != 0 || r.Err() != api.OK {
		t.Errorf("Raw(0) at the end: %v, %d", b, r.Err())
	}
}

func TestReadTakesOffWhatWasPut(t *testing.T) {
	for _, w := range widths {
		for _, x := range numbers {
			r := octet.Read(w.put([]byte{200, 201}, x))
			r.U16()
			if got := w.take(r); got != cut(x, w.bytes) || r.Left() != 0 || r.Err() != api.OK {
				t.Errorf("width %d: %x came as %x, %d left, %d", w.bytes, x, got, r.Left(), r.Err())
			}
		}
	}
}

func TestReadOfNothing(t *testing.T) {
	for _, b := range [][]byte{nil, {}} {
		r := octet.Read(b)
		if r == nil {
			t.Fatal("Read: no reader")
		}
		if r.Left() != 0 || r.Err() != api.OK || len(r.Raw(0)) != 0 || r.Err() != api.OK {
			t.Errorf("Read(%v): %d left, %d", b, r.Left(), r.Err())
		}
		if x := r.U8(); x != 0 || r.Err() != api.ErrShort {
			t.Errorf("Read(%v): U8 %d, %d", b, x, r.Err())
		}
	}
}

func TestReaderHasAWireOfItsOwn(t *testing.T) {
	b := wireOf(6)
	r, other := octet.Read(b), octet.Read(b)
	for i := range b {
		b[i] = 99
	}
	first := r.Raw(2)
	first[0], first[1] = 77, 77
	_ = append(first, 77, 77, 77)
	if x := r.U32(); x != 0x3040506 {
		t.Errorf("what stands in a list that was handed in or out has changed the wire: %x", x)
	}
	if all := other.Raw(6); !bytes.Equal(all, wireOf(6)) {
		t.Errorf("another reader's wire: %v", all)
	}
	if !bytes.Equal(first, []byte{77, 77}) {
		t.Errorf("what was answered has changed: %v", first)
	}
}

func TestReadChangesNothingHandedIn(t *testing.T) {
	b := wireOf(9)
	r := octet.Read(b[:5])
	r.U8()
	out := r.Raw(2)
	out[0] = 50
	r.U64()
	if !bytes.Equal(b, wireOf(9)) {
		t.Errorf("it is now %v", b)
	}
	if r.Left() != 2 {
		t.Errorf("the room behind the list's end is no part of it: %d left", r.Left())
	}
}

// nothingComes fails if r, which is out of step, takes anything off any more.
func nothingComes(t *testing.T, r *octet.Reader, left int, err api.Errno) {
	t.Helper()
	for range 2 {
		if r.U8() != 0 || r.U16() != 0 || r.U32() != 0 || r.U64() != 0 {
			t.Error("a number came out of step")
		}
		for _, n := range []int{0, 1, left, left + 1, -1, math.MaxInt, math.MinInt} {
			if b := r.Raw(n); len(b) != 0 {
				t.Errorf("Raw(%d) out of step: %v", n, b)
			}
		}
		if r.Left() != left || r.Err() != err {
			t.Errorf("out of step: %d left, not %d; %d, not %d", r.Left(), left, r.Err(), err)
		}
	}
}

func TestMoreThanThereIs(t *testing.T) {
	for _, w := range widths {
		for short := range w.bytes {
			r := octet.Read(append([]byte{250}, wireOf(short)...))
			r.U8()
			if x := w.take(r); x != 0 {
				t.Errorf("width %d of %d bytes: %x", w.bytes, short, x)
			}
			nothingComes(t, r, short, api.ErrShort)
		}
		r := octet.Read(wireOf(w.bytes))
		if x := w.take(r); x == 0 || r.Err() != api.OK {
			t.Errorf("width %d of as many bytes: %x, %d", w.bytes, x, r.Err())
		}
	}
	for _, n := range []int{4, 5, 1 << 30, math.MaxInt} {
		r := octet.Read(wireOf(3))
		if b := r.Raw(n); len(b) != 0 {
			t.Errorf("Raw(%d): %v", n, b)
		}
		nothingComes(t, r, 3, api.ErrShort)
	}
}

func TestFewerThanNone(t *testing.T) {
	for _, n := range []int{-1, -2, -3, -4, math.MinInt + 1, math.MinInt} {
		for size := range 4 {
			r := octet.Read(wireOf(size))
			if b := r.Raw(n); len(b) != 0 {
				t.Errorf("Raw(%d): %v", n, b)
			}
			nothingComes(t, r, size, api.ErrArg)
		}
	}
}

// P1.4

func TestLeftCountsDown(t *testing.T) {
	r := octet.Read(wireOf(20))
	for _, q := range []struct {
		take func()
		left int
	}{
		{func() {}, 20},
		{func() { r.U8() }, 19},
		{func() { r.U16() }, 17},
		{func() { r.U32() }, 13},
		{func() { r.U64() }, 5},
		{func() { r.Raw(0) }, 5},
		{func() { r.Raw(4) }, 1},
		{func() { r.U8() }, 0},
	} {
		q.take()
		if r.Left() != q.left || r.Err() != api.OK {
			t.Errorf("%d left, not %d; %d", r.Left(), q.left, r.Err())
		}
	}
	r.U8()
	nothingComes(t, r, 0, api.ErrShort)
}

func TestTheExampleOfAReader(t *testing.T) {
	r := octet.Read([]byte{5, 0, 1})
	if x := r.U8(); x != 5 {
		t.Errorf("U8: %d", x)
	}
	if x := r.U32(); x != 0 || r.Err() != api.ErrShort {
		t.Errorf("U32: %d, %d", x, r.Err())
	}
	if x := r.U8(); x != 0 || r.Left() != 2 {
		t.Errorf("U8: %d, %d left", x, r.Left())
	}
}

func TestNilReader(t *testing.T) {
	var r *octet.Reader
	for range 2 {
		if r.U8() != 0 || r.U16() != 0 || r.U32() != 0 || r.U64() != 0 || r.Left() != 0 {
			t.Error("a nil reader tells something")
		}
		for _, n := range []int{-1, 0, 1, math.MaxInt, math.MinInt} {
			if b := r.Raw(n); len(b) != 0 {
				t.Errorf("a nil reader's Raw(%d): %v", n, b)
			}
		}
		if r.Err() != api.ErrNil {
			t.Errorf("a nil reader's Err: %d", r.Err())
		}
	}
}

// P1.5

func TestBitsGoAsTheyAre(t *testing.T) {
	for _, w := range widths {
		for _, x := range numbers {
			b := w.put(nil, x)
			for k := range 8 * w.bytes {
				if octet.Bit(b, k) != (x>>k&1 == 1) {
					t.Errorf("width %d: bit %d of %x on the wire %v", w.bytes, k, x, b)
				}
			}
			if octet.Bit(b, 8*w.bytes) {
				t.Errorf("width %d: a bit more of %x", w.bytes, x)
			}
		}
	}
}

// row is numbers of the widths 16, 64 and 32.
type row struct {
	a uint16
	b uint64
	c uint32
}

func (q row) wire() []byte {
	return octet.Put32(octet.Put64(octet.Put16(nil, q.a), q.b), q.c)
}

func TestRowsStandInOneOrder(t *testing.T) {
	var rows []row
	for _, x := range numbers[:8] {
		for _, y := range numbers {
			rows = append(rows, row{uint16(x), y, uint32(x ^ y)}, row{uint16(x), y, uint32(y)})
		}
	}
	for _, p := range rows {
		for _, q := range rows {
			want := cmp.Or(cmp.Compare(p.a, q.a), cmp.Compare(p.b, q.b), cmp.Compare(p.c, q.c))
			if got := bytes.Compare(p.wire(), q.wire()); got != want {
				t.Fatalf("%v and %v: %d on the wire, %d as numbers", p, q, got, want)
			}
			if octet.Equal(p.wire(), q.wire()) != (want == 0) {
				t.Fatalf("%v and %v: Equal", p, q)
			}
		}
	}
}

func TestPartsAreTheWhole(t *testing.T) {
	whole := wireOf(13)
	for first := range len(whole) + 1 {
		for second := range len(whole) - first + 1 {
			r := octet.Read(whole)
			parts := slices.Concat(r.Raw(first), r.Raw(second), r.Raw(len(whole)-first-second))
			if !bytes.Equal(parts, octet.Read(whole).Raw(len(whole))) || !bytes.Equal(parts, whole) || r.Err() != api.OK {
				t.Errorf("in parts of %d, %d: %v, %d", first, second, parts, r.Err())
			}
		}
	}
}

func TestNumbersAreTheirParts(t *testing.T) {
	for _, x := range numbers {
		b := octet.Put64(nil, x)
		r := octet.Read(b)
		if got := uint64(r.U32())<<32 | uint64(r.U16())<<16 | uint64(r.U8())<<8 | uint64(r.U8()); got != x {
			t.Errorf("%x came in parts as %x", x, got)
		}
		r = octet.Read(b)
		if got := octet.Put32(octet.Put16(r.Raw(2), r.U16()), r.U32()); !octet.Equal(got, b) {
			t.Errorf("%v was laid again as %v", b, got)
		}
	}
}
