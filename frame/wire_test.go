package frame_test

import (
	"bytes"
	"math"
	"slices"
	"testing"

	"junctionbox/api"
	"junctionbox/frame"
)

// P15.2

// The bytes of one of each Kind, laid by hand.
func TestEncode(t *testing.T) {
	nine := []byte{0, 0, 0, 0, 0, 0, 0, 9}
	p := []byte{1, 4, 8, 10, 2, 0, 5, 7} // the bytes of the small batch
	for _, c := range []struct {
		of   api.Msg
		want [][]byte
	}{
		{in(offer(at(0x0102030405060708, 0x1112131415161718), 0x2122232425262728), most), [][]byte{{1, 1, 2, 0x40, 0, 0, 0, 0, 0, 0, 0},
			{1, 2, 3, 4, 5, 6, 7, 8}, {0x11, 0x12, 0x13, 0x14, 0x15, 0x16, 0x17, 0x18}, {0x21, 0x22, 0x23, 0x24, 0x25, 0x26, 0x27, 0x28}, {0}}},
		{offer(at(3, 2), 1, entry(3, 1, 4, small()), entry(5, 2, 0x31323334, batch(gone(pfx(), 1)))), [][]byte{{1, 1, 2}, nine,
			{0, 0, 0, 0, 0, 0, 0, 3}, {0, 0, 0, 0, 0, 0, 0, 2}, {0, 0, 0, 0, 0, 0, 0, 1}, {2},
			{0, 0, 0, 0, 0, 0, 0, 3}, {1}, {0, 0, 0, 4}, {0, 8}, p,
			{0, 0, 0, 0, 0, 0, 0, 5}, {2}, {0x31, 0x32, 0x33, 0x34}, {0, 8}, {1, 4, 8, 10, 1, 1, 0, 0}}},
		{have(true, 0x0102030405060708), [][]byte{{2, 1, 2}, nine, {1}, {1, 2, 3, 4, 5, 6, 7, 8}}},
		{between(have(false, 6), 2, 1), [][]byte{{2, 2, 1}, nine, {0}, {0, 0, 0, 0, 0, 0, 0, 6}}},
		{state(at(5, 4), 3, lasts(last(0x31323334, 5), last(6, 2)), api.Rib{Routes: []api.Route{{Prefix: pfx(), Source: 2, Pref: 5, Hop: 7}}}), [][]byte{{3, 1, 2}, nine,
			{0, 0, 0, 0, 0, 0, 0, 5}, {0, 0, 0, 0, 0, 0, 0, 4}, {0, 0, 0, 0, 0, 0, 0, 3},
			{0x31, 0x32, 0x33, 0x34}, {0, 0, 0, 0, 0, 0, 0, 5}, {0, 0, 0, 6}, {0, 0, 0, 0, 0, 0, 0, 2}, {0, 7}, {1, 4, 8, 10, 2, 5, 7}}},
		{state(at(0, 0), 0, lasts(last(0, 0), last(0, 0)), api.Rib{}), [][]byte{{3, 1, 2}, nine, make([]byte, 48), {0, 1}, {0}}},
		{in(ask(7), 3), [][]byte{{4, 1, 2}, {0, 0, 0, 0, 0, 0, 0, 3}, {0, 0, 0, 0, 0, 0, 0, 7}}},
		{between(grant(0x0102030405060708), 2, 1), [][]byte{{5, 2, 1}, nine, {1, 2, 3, 4, 5, 6, 7, 8}}},
		{between(submit(0x31323334, small()), 4, 1), [][]byte{{6, 4, 1}, make([]byte, 8), {0x31, 0x32, 0x33, 0x34}, p}},
		{reply(0x31323334, 0x0102, 0x0102030405060708), [][]byte{{7, 2, 3}, make([]byte, 8), {0x31, 0x32, 0x33, 0x34}, {1, 2}, {1, 2, 3, 4, 5, 6, 7, 8}}},
		{reply(1, 65535, 0), [][]byte{{7, 2, 3}, make([]byte, 8), {0, 0, 0, 1}, {255, 255}, make([]byte, 8)}},
	} {
		want := sealed(slices.Concat(c.want...))
		if got, err := frame.Encode(c.of); !bytes.Equal(got, want) || err != api.OK {
			t.Errorf("Encode(%s): %x, %d, not %x", short(c.of), got, err, want)
		}
		if got, err := frame.Decode(want); text(got) != text(c.of) || err != api.OK {
			t.Errorf("Decode(%x): %s, %d, not %s", want, short(got), err, short(c.of))
		}
	}
}

// All bytes are those that the chapter's words, read once more, lay.
func TestEncodeOfAll(t *testing.T) {
	for _, m := range rights() {
		if got, err := frame.Encode(m); !bytes.Equal(got, sealed(raw(m))) || err != api.OK {
			t.Errorf("Encode(%s): %x, %d, not %x", short(m), got, err, sealed(raw(m)))
		}
	}
}

// No message that may be has more than MaxFrame bytes: these are the longest ones of their Kinds.
func TestTheLongest(t *testing.T) {
	full := lasts(last(math.MaxUint32, most), last(1, most))
	for _, c := range []struct {
		of   api.Msg
		want int
	}{
		{offer(at(9, 9), 9, eight(9, great())...), 11 + 16 + 8 + 1 + 8*(8+1+4+2+1+8*(18+4)) + 4},
		{in(state(at(most, most), most, full, ribOf(40, 4)), most), 11 + 16 + 8 + 2*12 + 2 + 1 + 160*(18+3) + 4},
		{submit(4, great()), 11 + 4 + 1 + 8*(18+4) + 4},
	} {
		got, err := frame.Encode(c.of)
		if err != api.OK || len(got) != c.want || len(got) > api.MaxFrame {
			t.Errorf("Encode(%s): %d bytes, %d, not %d", short(c.of), len(got), err, c.want)
		}
	}
}

// P15.3: Decode of Encode is the message; with less of the bytes, or more, they are none.
func TestDecodeOfEncode(t *testing.T) {
	for _, m := range rights() {
		b, _ := frame.Encode(m)
		got, err := frame.Decode(b)
		if err != api.OK || text(got) != text(m) || !frame.Same(got, m) {
			t.Fatalf("Decode of Encode(%s): %s, %d", short(m), short(got), err)
		}
		body := b[:len(b)-4]
		for i := range body {
			noFrame(t, "cut off, and sealed", sealed(body[:i]), api.ErrFrame)
		}
		for _, behind := range [][]byte{{0}, {1}, {0, 0, 0, 0}, raw(plain()[6]), bytes.Repeat([]byte{255}, 30), make([]byte, 5000)} {
			noFrame(t, "with more behind, and sealed", sealed(slices.Concat(body, behind)), api.ErrFrame)
		}
		noFrame(t, "with a nought ahead, and sealed", sealed(slices.Concat([]byte{0}, body)), api.ErrFrame)
	}
}

// Without the right sum there is no frame, and with fewer bytes than a sum has it is too short.
func TestDecodeOfWhatIsNotSealed(t *testing.T) {
	for _, b := range [][]byte{nil, {}, {1}, {0, 1}, {0, 0, 1}, {255, 255, 255}, {4, 1, 2}} {
		noFrame(t, "too short", b, api.ErrShort)
	}
	for _, b := range [][]byte{{0, 0, 0, 0}, {0, 0, 0, 1}, {0, 0, 0, 2}, {255, 255, 255, 252}, {255, 255, 255, 255}, {4, 1, 2, 0, 0}, make([]byte, 20), make([]byte, 9000)} {
		noFrame(t, "four bytes or more", b, api.ErrFrame)
	}
	for _, m := range plain()[1:] {
		b, _ := frame.Encode(m)
		for i := range b {
			want := api.ErrFrame
			if i < 4 {
				want = api.ErrShort
			}
			noFrame(t, "cut off", b[:i], want)
			for _, by := range []byte{1, 2, 128, 255} {
				other := slices.Clone(b)
				other[i] ^= by
				noFrame(t, "one byte another one", other, api.ErrFrame)
			}
		}
		noFrame(t, "the sum alone", b[len(b)-4:], api.ErrFrame)
		noFrame(t, "without the sum", raw(m), api.ErrFrame)
		noFrame(t, "with a byte behind", append(slices.Clone(b), 0), api.ErrFrame)
		noFrame(t, "sealed twice", sealed(b), api.ErrFrame)
	}
}

// Bytes of what may not be a message, though they are laid as one is.
func TestDecodeOfWhatMayNotBe(t *testing.T) {
	tall := in(offer(at(1, 1), 1, entry(9, 1, 1, small())), 9)
	some := lasts(last(7, 5), last(0, 0))
	l := []api.Msg{
		{}, ofKind(ask(8), 0), ofKind(ask(8), 8), ofKind(ask(8), 255), ofKind(reply(4, 0, 1), 8),
		between(tall, 1, 1), between(tall, 2, 2), between(tall, 0, 1), between(tall, 1, 3), between(tall, 3, 1), between(tall, 0, 3), between(tall, 255, 4),
		between(plain()[6], 2, 3), between(plain()[6], 5, 1), between(plain()[6], 3, 3), between(plain()[6], 3, 0), between(plain()[6], 2, 1),
		between(reply(4, 0, 1), 3, 2), between(reply(4, 0, 1), 1, 5), between(reply(4, 0, 1), 1, 2), between(reply(4, 0, 1), 0, 3),
		in(tall, 0), in(tall, 8), in(tall, most+1), in(ask(8), 0), in(grant(8), most+1), in(have(true, 1), 0), in(state(at(0, 0), 0, lasts(last(0, 0), last(0, 0)), api.Rib{}), 0),
		in(plain()[6], 1), in(reply(4, 0, 1), 1), in(reply(4, 0, 1), most),
		offer(at(0, 1), 0), offer(at(1, 0), 0), offer(at(1, 10), 0), offer(at(most+1, 1), 0), offer(at(1, 1), most+1), offer(at(math.MaxUint64, math.MaxUint64), math.MaxUint64),
		offer(at(0, 0), 0, append(eight(1, small()), entry(1, 1, 1, small()))...), offer(at(0, 0), 0, slices.Repeat(eight(1, small()), 31)...),
		offer(at(0, 0), 0, entry(0, 1, 1, small())), offer(at(0, 0), 0, entry(10, 1, 1, small())), offer(at(3, 3), 0, entry(2, 1, 1, small())), offer(at(0, 0), 0, entry(2, 1, 1, small()), entry(1, 1, 2, small())),
		offer(at(0, 0), 0, entry(1, 0, 1, small())), offer(at(0, 0), 0, entry(1, 3, 1, small())), offer(at(0, 0), 0, entry(1, 1, 0, small())),
		have(true, most+1), have(false, math.MaxUint64), ask(most + 1), grant(1 << 63),
		state(at(0, 4), 0, lasts(last(0, 0), last(0, 0)), api.Rib{}), state(at(5, 0), 0, some, api.Rib{}), state(at(5, 10), 0, some, api.Rib{}), state(at(5, 4), most+1, some, api.Rib{}), state(at(4, 4), 0, some, api.Rib{}),
		state(at(5, 4), 0, lasts(last(0, 5), last(0, 0)), api.Rib{}), state(at(5, 4), 0, lasts(last(0, 0), last(5, 0)), api.Rib{}),
		state(at(5, 4), 0, some, ribOf(41, 1)), state(at(5, 4), 0, some, ribOf(1, 5)), state(at(5, 4), 0, some, ribOf(63, 4)),
		submit(0, small()), reply(0, 0, 1), reply(4, 0, most+1),
	}
	for _, b := range wrongBatches()[:2] {
		l = append(l, submit(4, b), offer(at(0, 0), 0, entry(1, 1, 1, b)))
	}
	for _, m := range l {
		noFrame(t, "what may not be", sealed(raw(m)), api.ErrFrame)
	}
}

// Numbers that say how much comes, or whether, are just those.
func TestDecodeOfWrongCounts(t *testing.T) {
	for is := range 256 {
		b := raw(have(true, 6))
		b[11] = byte(is)
		if is > 1 {
			noFrame(t, "an Ok that is neither 1 nor 0", sealed(b), api.ErrFrame)
		} else if got, err := frame.Decode(sealed(b)); err != api.OK || got.Ok != (is == 1) {
			t.Errorf("Decode(%x): %s, %d", sealed(b), short(got), err)
		}
	}
	two := raw(offer(at(0, 0), 0, entry(1, 1, 1, small()), entry(1, 1, 2, small())))
	rib := raw(state(at(5, 4), 0, lasts(last(7, 5), last(0, 0)), ribOf(2, 2)))
	none := raw(state(at(5, 4), 0, lasts(last(7, 5), last(0, 0)), api.Rib{}))
	for is := range 256 {
		for _, c := range []struct {
			what string
			of   []byte
			at   int
		}{{"how many Entries", two, 35}, {"how many bytes a batch has", two, 50}, {"the same, the higher byte", two, 49}, {"how many bytes the last batch has", two, 73}, {"how many bytes the Rib has", rib, 60}, {"the same, the higher byte", rib, 59}, {"how many bytes no candidates have", none, 60}} {
			b := slices.Clone(c.of)
			if b[c.at] == byte(is) {
				if got, err := frame.Decode(sealed(b)); err != api.OK {
					t.Errorf("%s: Decode(%x): %s, %d", c.what, b, short(got), err)
				}
				continue
			}
			b[c.at] = byte(is)
			noFrame(t, c.what, sealed(b), api.ErrFrame)
		}
	}
	// With bytes behind that make up for the greater number they are no more those of a batch, or of a RIB.
	long := slices.Concat(none[:59], []byte{0, 2}, none[61:], []byte{0})
	noFrame(t, "a Rib and a nought", sealed(long), api.ErrFrame)
	long = slices.Concat(two[:49], []byte{0, 9}, two[51:59], []byte{0}, two[59:])
	noFrame(t, "a batch and a nought", sealed(long), api.ErrFrame)
	noFrame(t, "a Rib of no bytes", sealed(slices.Concat(none[:59], []byte{0, 0})), api.ErrFrame)
	noFrame(t, "a batch of no bytes", sealed(raw(plain()[6])[:15]), api.ErrFrame)
}

// P15.3: each byte of messages changed to each other one, and sealed: it is the bytes of what comes of it, or it is refused, as the chapter's words, read once more, have it.
func TestDecodeOfEachByteChanged(t *testing.T) {
	right, wrong := 0, 0
	for _, m := range append(plain()[1:], have(false, 6), submit(4, batch(put(pfx(), 1, 0, 1), gone(pfx(), 2))), offer(at(0, 0), 0)) {
		body := raw(m)
		for i := range body {
			for is := range 256 {
				b := slices.Clone(body)
				b[i] = byte(is)
				if decoded(t, b) {
					right++
				} else {
					wrong++
				}
			}
		}
	}
	if right < 10000 || wrong < 10000 {
		t.Errorf("%d may be, %d may not", right, wrong)
	}
}

// decoded fails a test, if bytes without their sum are not taken, or refused, as the chapter's words have it; it is whether they are to be taken.
func decoded(t *testing.T, b []byte) bool {
	t.Helper()
	want := guess(b)
	if !laid(want) || !bytes.Equal(raw(want), b) || !may(want) {
		noFrame(t, "whatever", sealed(b), api.ErrFrame)
		return false
	}
	got, err := frame.Decode(sealed(b))
	if err != api.OK || text(got) != text(want) {
		t.Fatalf("Decode(%x): %s, %d, not %s", sealed(b), short(got), err, short(want))
	}
	if again, err := frame.Encode(got); err != api.OK || !bytes.Equal(again, sealed(b)) {
		t.Fatalf("Encode of Decode(%x): %x, %d", sealed(b), again, err)
	}
	return true
}

// laid is whether all prefixes of a message have as many bytes as they say.
func laid(m api.Msg) bool {
	for _, x := range m.Base.Rib.Routes {
		if x.Prefix.Bits > 128 {
			return false
		}
	}
	for _, e := range append(m.Entries, api.Entry{Batch: m.Batch}) {
		for _, u := range e.Batch.Updates {
			if u.Prefix.Bits > 128 {
				return false
			}
		}
	}
	return true
}

// Some bytes of messages changed, taken out or put in, and sealed.
func TestDecodeOfWhatever(t *testing.T) {
	var d dice
	all := rights()
	right, wrong := 0, 0
	for range 30000 {
		b := raw(one(&d, all...))
		for range d.roll(3) {
			i := d.roll(len(b))
			switch d.roll(4) {
			case 0:
				b[i] = one[byte](&d, 0, 1, 2, 3, 4, 6, 7, 8, 64, 128, 255)
			case 1:
				b = slices.Insert(b, i, byte(d.roll(9)))
			case 2:
				b = slices.Delete(b, i, i+1)
			case 3:
				b[i] += byte(1 + 254*d.roll(2))
			}
		}
		if decoded(t, b) {
			right++
		} else {
			wrong++
		}
		if t.Failed() {
			return
		}
	}
	if right < 5000 || wrong < 5000 {
		t.Errorf("%d may be, %d may not", right, wrong)
	}
}

// P15.3: unlike messages have unlike bytes.
func TestUnlikeMessages(t *testing.T) {
	var d dice
	all := rights()
	of, texts := map[string]string{}, map[string]string{}
	for i := range 20000 {
		m := d.whatever(all)
		if i < len(all) {
			m = all[i]
		}
		b, err := frame.Encode(m)
		if err != api.OK {
			continue
		}
		if other, ok := of[string(b)]; ok && other != text(m) {
			t.Fatalf("%x are the bytes of %s and of %s", b, other, text(m))
		}
		if other, ok := texts[text(m)]; ok && other != string(b) {
			t.Fatalf("%s has the bytes %x and %x", text(m), other, b)
		}
		of[string(b)], texts[text(m)] = text(m), string(b)
	}
	if len(of) < 700 {
		t.Errorf("%d messages", len(of))
	}
}
