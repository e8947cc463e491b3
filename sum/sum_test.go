package sum_test

import (
	"bytes"
	"math"
	"slices"
	"testing"

	"junctionbox/api"
	"junctionbox/sum"
)

// prime is the chapter's.
const prime = 4294967291

// bytesOf is so many bytes; those of other seeds are others.
func bytesOf(n, seed int) []byte {
	b := make([]byte, n)
	for i := range b {
		b[i] = byte(31*i + i*i/7 + 101*seed + seed*i)
	}
	return b
}

// reckoned is the sum by its powers of 257, the last byte first: another way than going on byte by byte.
func reckoned(begin uint32, b []byte) uint32 {
	var all uint64
	power := uint64(1)
	for _, x := range slices.Backward(b) {
		all = (all + uint64(x)*power) % prime
		power = power * 257 % prime
	}
	return uint32((all + uint64(begin)%prime*power) % prime)
}

// highest lays a number, the highest byte first.
func highest(x uint32) []byte {
	return []byte{byte(x >> 24), byte(x >> 16), byte(x >> 8), byte(x)}
}

// samples are bytes of many lengths, none among them, all bytes alike, and bytes whose sum is nought or little more.
func samples() [][]byte {
	all := [][]byte{
		nil, {}, {0}, {0, 0}, {0, 0, 0, 0, 0}, {255}, {1, 2}, {2, 1}, []byte("junction"),
		{249, 11, 248, 249}, {249, 11, 248, 250}, {249, 11, 248, 253},
		bytes.Repeat([]byte{255}, 1000), make([]byte, 1000),
	}
	for n := range 70 {
		all = append(all, bytesOf(n, n))
	}
	return all
}

// begins are sums from which one goes on, those about the prime and above it among them.
var begins = []uint32{0, 1, 2, 256, 257, 65536, 16711935, 16711936, 1 << 31, 0x89a7e5ec, prime - 257, prime - 2, prime - 1, prime, prime + 1, prime + 3, math.MaxUint32}

// opens fails if b is not opened to what is wanted.
func opens(t *testing.T, b, want []byte) {
	t.Helper()
	if got, err := sum.Open32(b); err != api.OK || !bytes.Equal(got, want) {
		t.Errorf("Open32(%v): %v, %d; not %v", b, got, err, want)
	}
}

// refused fails if Open32 does not answer nothing and err.
func refused(t *testing.T, b []byte, err api.Errno) {
	t.Helper()
	if got, e := sum.Open32(b); e != err || len(got) != 0 {
		t.Errorf("Open32(%v): %v, %d; not %d", b, got, e, err)
	}
}

// P3.1

func TestSum32OfKnownBytes(t *testing.T) {
	for _, q := range []struct {
		b    []byte
		want uint32
	}{
		{nil, 1},
		{[]byte{}, 1},
		{[]byte{0}, 257},
		{[]byte{1, 2}, 66308},
		{[]byte{255}, 512},
		{[]byte{0, 1}, 66050},
		{[]byte{1, 0}, 66306},
		{[]byte{0, 0, 0}, 16974593},
		{[]byte{0, 0, 0, 0}, 67503110},
		{[]byte{255, 255, 255, 255}, 117965319},
		{[]byte("junction"), 2309481964},
		{bytes.Repeat([]byte{255}, 1000), 3047636443},
		{make([]byte, 100000), 3615006925},
		{[]byte{249, 11, 248, 249}, 0},
		{[]byte{249, 11, 248, 250}, 1},
	} {
		if got := sum.Sum32(q.b); got != q.want {
			t.Errorf("Sum32 of %d bytes: %d, not %d", len(q.b), got, q.want)
		}
	}
	all := make([]byte, 256)
	for i := range all {
		all[i] = byte(i)
	}
	if got := sum.Sum32(all); got != 562707988 {
		t.Errorf("Sum32 of all bytes: %d", got)
	}
}

func TestOnOfKnownSums(t *testing.T) {
	for _, q := range []struct {
		sum  uint32
		b    []byte
		want uint32
	}{
		{1, []byte{1, 2}, 66308},
		{prime, []byte{7}, 7},
		{0, nil, 0},
		{0, []byte{0, 0}, 0},
		{0, []byte{5}, 5},
		{1, nil, 1},
		{prime - 1, []byte{1}, 4294967035},
		{prime - 1, []byte{255}, 4294967289},
		{math.MaxUint32, []byte{255}, 1283},
	} {
		if got := sum.On(q.sum, q.b); got != q.want {
			t.Errorf("On(%d, %v): %d, not %d", q.sum, q.b, got, q.want)
		}
	}
}

func TestOnBeginsWithWhatIsLeft(t *testing.T) {
	for _, q := range []struct{ sum, left uint32 }{
		{prime - 1, prime - 1}, {prime, 0}, {prime + 1, 1}, {prime + 2, 2}, {prime + 3, 3}, {math.MaxUint32, 4},
	} {
		for _, b := range [][]byte{nil, {}} {
			if got := sum.On(q.sum, b); got != q.left {
				t.Errorf("On(%d, no bytes): %d, not %d", q.sum, got, q.left)
			}
		}
		for _, b := range samples() {
			if got, want := sum.On(q.sum, b), sum.On(q.left, b); got != want {
				t.Errorf("On(%d, %v): %d, not %d", q.sum, b, got, want)
			}
		}
	}
}

func TestSumsAreWhatIsReckoned(t *testing.T) {
	for _, b := range samples() {
		if got, want := sum.Sum32(b), reckoned(1, b); got != want {
			t.Errorf("Sum32(%v): %d, not %d", b, got, want)
		}
		for _, s := range begins {
			if got, want := sum.On(s, b), reckoned(s, b); got != want {
				t.Errorf("On(%d, %v): %d, not %d", s, b, got, want)
			}
		}
	}
}

func TestASumIsBelowThePrime(t *testing.T) {
	for _, s := range begins {
		for x := range 256 {
			if got := sum.On(s, []byte{byte(x)}); got >= prime {
				t.Errorf("On(%d, %d): %d", s, x, got)
			}
		}
	}
}

// P3.2

func TestSeal32(t *testing.T) {
	for _, q := range []struct{ b, want []byte }{
		{nil, []byte{0, 0, 0, 1}},
		{[]byte{}, []byte{0, 0, 0, 1}},
		{[]byte{0}, []byte{0, 0, 0, 1, 1}},
		{[]byte{1, 2}, []byte{1, 2, 0, 1, 3, 4}},
		{[]byte("junction"), append([]byte("junction"), 0x89, 0xa7, 0xe5, 0xec)},
		{[]byte{249, 11, 248, 249}, []byte{249, 11, 248, 249, 0, 0, 0, 0}},
	} {
		if got := sum.Seal32(q.b); !bytes.Equal(got, q.want) {
			t.Errorf("Seal32(%v): %v, not %v", q.b, got, q.want)
		}
	}
	for _, b := range samples() {
		if got, want := sum.Seal32(b), slices.Concat(b, highest(reckoned(1, b))); !bytes.Equal(got, want) {
			t.Errorf("Seal32(%v): %v, not %v", b, got, want)
		}
	}
}

func TestWhatWasSealedIsOpened(t *testing.T) {
	opens(t, []byte{0, 0, 0, 1}, nil)
	opens(t, []byte{1, 2, 0, 1, 3, 4}, []byte{1, 2})
	for _, b := range samples() {
		opens(t, sum.Seal32(b), b)
		opens(t, sum.Seal32(sum.Seal32(b)), sum.Seal32(b))
	}
}

func TestFewerThanFourBytesAreNotOpened(t *testing.T) {
	for n := range 4 {
		refused(t, make([]byte, n), api.ErrShort)
		refused(t, []byte{0, 0, 0, 1}[:n], api.ErrShort)
		refused(t, []byte{0, 0, 0, 1}[4-n:], api.ErrShort)
		refused(t, bytes.Repeat([]byte{255}, n), api.ErrShort)
	}
	refused(t, nil, api.ErrShort)
}

func TestASumThatDoesNotFitIsNotOpened(t *testing.T) {
	refused(t, []byte{0, 0, 0, 0}, api.ErrSum)
	refused(t, []byte{1, 0, 0, 0}, api.ErrSum)
	for _, b := range samples() {
		s := sum.Sum32(b)
		for _, other := range []uint32{s + 1, s - 1, s ^ 1<<31, ^s, s + prime, s - prime} {
			refused(t, slices.Concat(b, highest(other)), api.ErrSum)
		}
		turned := highest(s)
		slices.Reverse(turned)
		if !bytes.Equal(turned, highest(s)) {
			refused(t, slices.Concat(b, turned), api.ErrSum)
		}
	}
}

// What is left of a number behind division by the prime is a sum; the number itself is none.
func TestThePrimeAndMoreAreNotOpened(t *testing.T) {
	for k := range 5 {
		b := []byte{249, 11, 248, byte(249 + k)}
		if s := sum.Sum32(b); s != uint32(k) {
			t.Fatalf("Sum32(%v): %d", b, s)
		}
		opens(t, slices.Concat(b, highest(uint32(k))), b)
		refused(t, slices.Concat(b, highest(prime+uint32(k))), api.ErrSum)
	}
	refused(t, highest(prime+1), api.ErrSum)
}

// R3

func TestWhatIsHandedInStays(t *testing.T) {
	room := sum.Seal32([]byte("a batch of routes"))
	room = append(room, 77, 78, 79, 80, 81, 82)
	was := slices.Clone(room)
	sealed := room[:len(room)-6]
	b := sealed[:len(sealed)-4]
	sum.Sum32(b)
	sum.On(5, b)
	first := sum.Seal32(b)
	again := sum.Seal32(b[:3])
	opened, err := sum.Open32(sealed)
	if err != api.OK {
		t.Fatalf("Open32: %d", err)
	}
	if !bytes.Equal(room, was) {
		t.Errorf("what was handed in, or the room behind it, is now %v", room)
	}
	if !bytes.Equal(first, was[:len(sealed)]) || !bytes.Equal(opened, was[:len(b)]) {
		t.Errorf("sealed %v, opened %v", first, opened)
	}
	for _, out := range [][]byte{first, again, opened} {
		for i := range out {
			out[i] = 99
		}
		_ = append(out, 98, 98, 98, 98, 98, 98)
	}
	if !bytes.Equal(room, was) {
		t.Errorf("an answer shares memory with what was handed in: %v", room)
	}
}

func TestAnswersShareNoMemory(t *testing.T) {
	b := []byte{1, 2, 3}
	sealed := sum.Seal32(b)
	one, _ := sum.Open32(sealed)
	two, _ := sum.Open32(sealed)
	one[0] = 9
	if !bytes.Equal(two, b) {
		t.Errorf("two answers share memory: %v", two)
	}
	clear(sealed)
	if !bytes.Equal(two, b) {
		t.Errorf("what was handed in changes what was answered: %v", two)
	}
	other := sum.Seal32(b)
	b[0] = 50
	opens(t, other, []byte{1, 2, 3})
}

func TestTheRoomBehindAListIsNoPartOfIt(t *testing.T) {
	room := append(sum.Seal32([]byte{4, 5}), sum.Seal32(nil)...)
	opens(t, room[:6], []byte{4, 5})
	refused(t, room[:5], api.ErrSum)
	refused(t, room[:3], api.ErrShort)
	if got := sum.Sum32(room[:0]); got != 1 {
		t.Errorf("Sum32 of no bytes with room behind them: %d", got)
	}
}

// P3.3

func TestOnOfASumIsTheSumOfBoth(t *testing.T) {
	for _, b := range samples() {
		for _, cut := range []int{0, 1, 2, len(b) / 2, len(b) - 1, len(b)} {
			if cut < 0 || cut > len(b) {
				continue
			}
			if got, want := sum.On(sum.Sum32(b[:cut]), b[cut:]), sum.Sum32(b); got != want {
				t.Errorf("%v, in parts from %d: %d, not %d", b, cut, got, want)
			}
		}
		for _, s := range begins {
			if got, want := sum.On(sum.On(s, b), []byte("and on")), sum.On(s, append(slices.Clone(b), "and on"...)); got != want {
				t.Errorf("On(On(%d, %v), more): %d, not %d", s, b, got, want)
			}
		}
	}
}

func TestBytesThatDifferAtOnePlaceHaveOtherSums(t *testing.T) {
	for _, n := range []int{1, 2, 3, 4, 5, 16, 60, 200} {
		b := bytesOf(n, n)
		s := sum.Sum32(b)
		for i := range b {
			was := b[i]
			for d := 1; d < 256; d++ {
				b[i] = was + byte(d)
				if sum.Sum32(b) == s {
					t.Errorf("%d bytes: %d instead of %d at %d has the same sum", n, b[i], was, i)
				}
			}
			b[i] = was
		}
	}
}

func TestTheSameBytesBehindOtherSums(t *testing.T) {
	for _, b := range samples() {
		met := map[uint32]uint32{}
		for _, s := range begins {
			got := sum.On(s, b)
			if old, ok := met[got]; ok && old != s%prime {
				t.Errorf("%v behind %d and behind %d: both %d", b, old, s, got)
			}
			met[got] = s % prime
		}
	}
}

func TestOneNoughtMore(t *testing.T) {
	for _, b := range samples() {
		if got, want := sum.Sum32(append(slices.Clone(b), 0)), uint32(uint64(sum.Sum32(b))*257%prime); got != want {
			t.Errorf("%v and a nought: %d, not %d", b, got, want)
		}
		for _, s := range begins {
			if got, want := sum.On(s, append(slices.Clone(b), 0)), uint32(uint64(sum.On(s, b))*257%prime); got != want {
				t.Errorf("On(%d, %v and a nought): %d, not %d", s, b, got, want)
			}
		}
	}
}

func TestWhatHasAnotherByteIsNotOpened(t *testing.T) {
	for _, b := range [][]byte{nil, {0}, {1, 2}, []byte("junction"), {249, 11, 248, 249}, {249, 11, 248, 253}, bytesOf(60, 3), bytesOf(300, 4)} {
		sealed := sum.Seal32(b)
		for i := range sealed {
			was := sealed[i]
			for d := 1; d < 256; d++ {
				sealed[i] = was + byte(d)
				refused(t, sealed, api.ErrSum)
			}
			sealed[i] = was
		}
		opens(t, sealed, b)
	}
}
