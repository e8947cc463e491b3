package route_test

import (
	"bytes"
	"slices"
	"testing"

	"junctionbox/api"
	"junctionbox/route"
)

// P11.4

func TestEncodeBatch(t *testing.T) {
	for _, c := range []struct {
		of   api.Batch
		want []byte
	}{
		{batch(put(pfx(), 2, 5, 7)), []byte{1, 4, 8, 10, 2, 0, 5, 7}},
		{batch(gone(pfx(), 2)), []byte{1, 4, 8, 10, 2, 1, 0, 0}},
		{batch(put(six(0), 4, 255, 255)), []byte{1, 6, 0, 4, 0, 255, 255}},
		{batch(put(qfx(), 1, 0, 1), gone(four(0), 3), put(four(9, 10, 128), 1, 2, 3)), []byte{3, 4, 16, 10, 1, 1, 0, 0, 1, 4, 0, 3, 1, 0, 0, 4, 9, 10, 128, 1, 0, 2, 3}},
	} {
		if got, err := route.EncodeBatch(c.of); !bytes.Equal(got, c.want) || err != api.OK {
			t.Errorf("EncodeBatch(%v): %x, %d", c.of, got, err)
		}
	}
	for _, b := range wrongBatches() {
		if got, err := route.EncodeBatch(b); got != nil || err != api.ErrBatch {
			t.Errorf("EncodeBatch(%v): %x, %d", b, got, err)
		}
	}
}

func TestEncode(t *testing.T) {
	for _, c := range []struct {
		of   api.Rib
		want []byte
	}{
		{api.Rib{}, []byte{0}},
		{rib(cand(pfx(), 2, 5, 7)), []byte{1, 4, 8, 10, 2, 5, 7}},
		{rib(cand(pfx(), 1, 5, 9), cand(pfx(), 2, 0, 255), cand(six(0), 4, 255, 1)), []byte{3, 4, 8, 10, 1, 5, 9, 4, 8, 10, 2, 0, 255, 6, 0, 4, 255, 1}},
	} {
		if got, err := route.Encode(c.of); !bytes.Equal(got, c.want) || err != api.OK {
			t.Errorf("Encode(%v): %x, %d", c.of, got, err)
		}
	}
	if got, err := route.Encode(rib(wide(40, 4)...)); len(got) != 1+160*7 || got[0] != 160 || err != api.OK {
		t.Errorf("Encode of the greatest: %x, %d", got, err)
	}
	for _, r := range wrongRibs() {
		if got, err := route.Encode(r); got != nil || err != api.ErrRib {
			t.Errorf("Encode(%v): %x, %d", r, got, err)
		}
	}
}

// noBatch and noRib fail a test, if these bytes are not refused so.
func noBatch(t *testing.T, b []byte, want api.Errno) {
	t.Helper()
	if got, err := route.DecodeBatch(b); got.Updates != nil || err != want {
		t.Fatalf("DecodeBatch(%x): %v, %d, not %d", b, got, err, want)
	}
}

func noRib(t *testing.T, b []byte, want api.Errno) {
	t.Helper()
	if got, err := route.Decode(b); got.Routes != nil || err != want {
		t.Fatalf("Decode(%x): %v, %d, not %d", b, got, err, want)
	}
}

// P11.4, P11.5: Decode of Encode is the same; less of its bytes end too early, more are none.
func TestDecodeBatchOfEncodeBatch(t *testing.T) {
	for _, of := range rightBatches() {
		b, err := route.EncodeBatch(of)
		if err != api.OK || !bytes.Equal(b, wireBatch(of.Updates...)) {
			t.Fatalf("EncodeBatch(%v): %x, %d", of, b, err)
		}
		if got, err := route.DecodeBatch(b); err != api.OK || !slices.Equal(got.Updates, of.Updates) {
			t.Fatalf("DecodeBatch(%x): %v, %d", b, got, err)
		}
		for i := range b {
			noBatch(t, b[:i], api.ErrShort)
		}
		for _, behind := range [][]byte{{0}, {1}, {4, 8, 11, 1, 0, 1, 1}, full(30), make([]byte, 3000)} {
			noBatch(t, slices.Concat(b, behind), api.ErrBatch)
		}
	}
}

func TestDecodeOfEncode(t *testing.T) {
	for _, of := range rightRibs() {
		b, err := route.Encode(of)
		if err != api.OK || !bytes.Equal(b, wireRib(of.Routes...)) {
			t.Fatalf("Encode(%v): %x, %d", of, b, err)
		}
		got, err := route.Decode(b)
		if err != api.OK {
			t.Fatalf("Decode(%x): %d", b, err)
		}
		sameRib(t, "Decode of Encode", got, of)
		for i := range b {
			noRib(t, b[:i], api.ErrShort)
		}
		for _, behind := range [][]byte{{0}, {1}, {4, 8, 11, 1, 1, 1}, full(30), make([]byte, 3000)} {
			noRib(t, slices.Concat(b, behind), api.ErrRib)
		}
	}
}

func TestDecodeOfNothing(t *testing.T) {
	for _, b := range [][]byte{nil, {}} {
		noBatch(t, b, api.ErrShort)
		noRib(t, b, api.ErrShort)
	}
	for count := 1; count < 256; count++ {
		noBatch(t, []byte{byte(count)}, api.ErrShort)
		noRib(t, []byte{byte(count)}, api.ErrShort)
	}
	// A RIB may be of nothing, a batch may not.
	noBatch(t, []byte{0}, api.ErrBatch)
	noBatch(t, []byte{0, 0}, api.ErrBatch)
	if got, err := route.Decode([]byte{0}); len(got.Routes) != 0 || err != api.OK {
		t.Errorf("Decode(00): %v, %d", got, err)
	}
}

// What is no batch or RIB, though its prefixes are right: that is told at its end, not ahead of it.
func TestDecodeOfWhatMayNotBe(t *testing.T) {
	p, q := pfx(), qfx()
	for _, l := range [][]api.Update{
		{put(p, 0, 0, 1)}, {put(p, 5, 0, 1)}, {put(p, 255, 0, 1)}, {put(p, 1, 0, 0)}, {gone(p, 0)}, {gone(p, 5)},
		{{Prefix: p, Source: 1, Gone: true, Pref: 1}}, {{Prefix: p, Source: 1, Gone: true, Hop: 1}}, {{Prefix: p, Source: 1, Gone: true, Pref: 255, Hop: 255}},
		{put(p, 1, 0, 1), put(p, 1, 0, 1)}, {put(p, 1, 0, 1), gone(p, 1)}, {put(p, 0, 0, 1), put(q, 1, 0, 1)}, {put(q, 1, 0, 1), put(p, 1, 0, 0)},
		puts(0, 9), puts(0, 200), puts(0, 255),
	} {
		b := wireBatch(l...)
		noBatch(t, b, api.ErrBatch)
		noBatch(t, append(slices.Clone(b), 0), api.ErrBatch)
		for i := range b {
			noBatch(t, b[:i], api.ErrShort)
		}
		if b[0]++; b[0] > 0 {
			noBatch(t, b, api.ErrShort)
		}
	}
	for _, l := range [][]api.Route{
		{cand(p, 0, 0, 1)}, {cand(p, 5, 0, 1)}, {cand(p, 255, 0, 1)}, {cand(p, 1, 0, 0)},
		{cand(p, 1, 0, 1), cand(p, 1, 0, 1)}, {cand(p, 2, 0, 1), cand(p, 1, 0, 1)}, {cand(q, 1, 0, 1), cand(p, 1, 0, 1)}, {cand(six(0), 1, 0, 1), cand(p, 1, 0, 1)},
		{cand(p, 0, 0, 1), cand(q, 1, 0, 1)}, {cand(p, 1, 0, 1), cand(q, 1, 0, 0)},
		wide(41, 1), wide(41, 4), wide(255, 1),
	} {
		b := wireRib(l...)
		noRib(t, b, api.ErrRib)
		noRib(t, append(slices.Clone(b), 0), api.ErrRib)
		for i := range b {
			noRib(t, b[:i], api.ErrShort)
		}
		if b[0]++; b[0] > 0 {
			noRib(t, b, api.ErrShort)
		}
	}
}

func TestDecodeOfAWrongPrefix(t *testing.T) {
	for _, wrong := range [][]byte{{0}, {5}, {255}, {7, 8}, {4, 33}, {4, 255}, {6, 129}, {4, 8 + 1, 10, 1}, {4, 1, 1}, {6, 7, 1}, append([]byte{6, 127}, full(16)...)} {
		for _, behind := range [][]byte{nil, {1}, {1, 0}, {1, 0, 0, 1}, full(60)} {
			for _, count := range []byte{1, 2, 8, 9, 40, 161, 255} {
				noBatch(t, slices.Concat([]byte{count}, wrong, behind), api.ErrBatch)
				noRib(t, slices.Concat([]byte{count}, wrong, behind), api.ErrRib)
			}
			for _, count := range []byte{2, 3, 255} {
				noBatch(t, slices.Concat([]byte{count}, []byte{4, 8, 10, 2, 0, 5, 7}, wrong, behind), api.ErrBatch)
				noBatch(t, slices.Concat([]byte{count}, []byte{4, 8, 10, 9, 0, 5, 0}, wrong, behind), api.ErrBatch)
				noRib(t, slices.Concat([]byte{count}, []byte{4, 8, 10, 2, 5, 7}, wrong, behind), api.ErrRib)
				noRib(t, slices.Concat([]byte{count}, []byte{4, 8, 10, 9, 5, 0}, wrong, behind), api.ErrRib)
			}
		}
	}
	// A byte that is wrong behind one that is not there is not met.
	for _, b := range [][]byte{{1, 4}, {1, 4, 9, 10}, {1, 4, 9, 10, 128}, {1, 6}} {
		noBatch(t, b, api.ErrShort)
		noRib(t, b, api.ErrShort)
	}
	noBatch(t, []byte{2, 4, 0, 9, 0, 0, 0, 4}, api.ErrShort)
	noRib(t, []byte{2, 4, 0, 9, 0, 0, 4}, api.ErrShort)
}

func TestDecodeBatchOfAWrongGone(t *testing.T) {
	for _, is := range []byte{2, 3, 4, 128, 254, 255} {
		for _, behind := range [][]byte{nil, {0}, {5, 7}, {0, 0}, {5, 7, 4}, full(60)} {
			for _, count := range []byte{1, 2, 8, 9, 255} {
				noBatch(t, slices.Concat([]byte{count, 4, 8, 10, 2, is}, behind), api.ErrBatch)
				noBatch(t, slices.Concat([]byte{count, 4, 8, 10, 0, is}, behind), api.ErrBatch)
			}
			noBatch(t, slices.Concat([]byte{2, 4, 8, 10, 2, 0, 5, 7, 4, 8, 11, 1, is}, behind), api.ErrBatch)
		}
	}
	noBatch(t, []byte{1, 4, 8, 10, 2}, api.ErrShort)
	noBatch(t, []byte{1, 4, 8, 10, 2, 0}, api.ErrShort)
	noBatch(t, []byte{1, 4, 8, 10, 2, 1}, api.ErrShort)
	// A RIB has no Gone: any Pref may stand in its stead.
	if got, err := route.Decode([]byte{1, 4, 8, 10, 2, 200, 7}); err != api.OK || !slices.Equal(got.Routes, []api.Route{cand(pfx(), 2, 200, 7)}) {
		t.Errorf("Decode: %v, %d", got, err)
	}
}

// whatever is bytes of a batch or of a RIB of which some were changed, taken out or put in, or of which the end is gone.
func (d *dice) whatever(m model) []byte {
	b := wireBatch(d.batch(m).Updates...)
	if d.roll(2) == 0 {
		b = wireRib(d.model(d.roll(4)).rib().Routes...)
	}
	for range d.roll(4) {
		i := d.roll(len(b))
		switch d.roll(4) {
		case 0:
			b[i] = []byte{0, 1, 2, 4, 6, 8, 255}[d.roll(7)]
		case 1:
			b = slices.Insert(b, i, byte(d.roll(5)))
		case 2:
			b = slices.Delete(b, i, min(i+1, len(b)))
		case 3:
			b = b[:len(b)-d.roll(min(len(b), 3))]
		}
		if len(b) == 0 {
			return b
		}
	}
	return b
}

// Each of many rows of bytes is the bytes of what comes of it, or is refused as the chapter's words, read once more, refuse it.
func TestDecodeOfWhatever(t *testing.T) {
	var d dice
	m := d.model(10)
	told := map[api.Errno]int{}
	batches, ribs := 0, 0
	for range 15000 {
		b := d.whatever(m)
		was := slices.Clone(b)
		if got, err := route.DecodeBatch(b); err != api.OK {
			told[err]++
			noBatch(t, b, second(b, 4, api.ErrBatch))
		} else if again, err := route.EncodeBatch(got); err != api.OK || !bytes.Equal(again, b) {
			t.Fatalf("EncodeBatch of DecodeBatch(%x): %x, %d", b, again, err)
		} else {
			batches++
		}
		if got, err := route.Decode(b); err != api.OK {
			told[err]++
			noRib(t, b, second(b, 3, api.ErrRib))
		} else if again, err := route.Encode(got); err != api.OK || !bytes.Equal(again, b) {
			t.Fatalf("Encode of Decode(%x): %x, %d", b, again, err)
		} else if len(got.Routes) > 0 {
			ribs++
		}
		if !bytes.Equal(b, was) {
			t.Fatalf("%x was made of %x", b, was)
		}
	}
	if batches < 300 || ribs < 300 || told[api.ErrShort] < 300 || told[api.ErrBatch] < 300 || told[api.ErrRib] < 300 {
		t.Errorf("%d of them are batches, %d RIBs; refused are %v", batches, ribs, told)
	}
}

// second is with which error bytes are refused, of parts that have so many bytes behind their prefixes, if they are refused at all.
func second(b []byte, numbers int, wrong api.Errno) api.Errno {
	if len(b) == 0 {
		return api.ErrShort
	}
	at := 1
	for range b[0] {
		if at >= len(b) {
			return api.ErrShort
		}
		width := map[byte]int{4: 32, 6: 128}[b[at]]
		if width == 0 {
			return wrong
		}
		if at+1 >= len(b) {
			return api.ErrShort
		}
		bits := int(b[at+1])
		if bits > width {
			return wrong
		}
		at += 2
		for i := 0; i < bits; i += 8 {
			if at >= len(b) {
				return api.ErrShort
			}
			if left := bits - i; left < 8 && b[at]<<left != 0 {
				return wrong
			}
			at++
		}
		for i := range numbers {
			if at >= len(b) {
				return api.ErrShort
			}
			if numbers == 4 && i == 1 && b[at] > 1 {
				return wrong
			}
			at++
		}
	}
	return wrong
}

// R3: what is answered is new memory, and nothing behind an end is read.
func TestBytesAreNewMemory(t *testing.T) {
	room := wireBatch(put(pfx(), 2, 5, 7), gone(qfx(), 1))
	for i := range room {
		noBatch(t, room[:i], api.ErrShort)
	}
	got, _ := route.DecodeBatch(room)
	clear(got.Updates[:cap(got.Updates)])
	if again, err := route.DecodeBatch(room); err != api.OK || !slices.Equal(again.Updates, []api.Update{put(pfx(), 2, 5, 7), gone(qfx(), 1)}) {
		t.Errorf("two answers share memory: %v, %d", again, err)
	}
	room = wireRib(wide(3, 2)...)
	for i := range room {
		noRib(t, room[:i], api.ErrShort)
	}
	of, _ := route.Decode(room)
	clear(of.Routes[:cap(of.Routes)])
	of, err := route.Decode(room)
	if err != api.OK {
		t.Fatalf("Decode: %d", err)
	}
	sameRib(t, "Decode once more", of, rib(wide(3, 2)...))
	first, _ := route.Encode(of)
	other, _ := route.EncodeBatch(batch(puts(0, 3)...))
	clear(first)
	clear(other)
	if again, _ := route.Encode(of); !bytes.Equal(again, room) {
		t.Errorf("two answers share memory: %x", again)
	}
	if again, _ := route.EncodeBatch(batch(puts(0, 3)...)); !bytes.Equal(again, wireBatch(puts(0, 3)...)) {
		t.Errorf("two answers share memory: %x", again)
	}
}
