package table_test

import (
	"bytes"
	"slices"
	"testing"

	"junctionbox/api"
	"junctionbox/table"
)

// P9.4

func TestEncode(t *testing.T) {
	for _, q := range []struct {
		of   api.Table
		want []byte
	}{
		{api.Table{}, []byte{0}},
		{tableOf(row(four(10), 8, 1)), []byte{1, 4, 8, 10, 1}},
		{tableOf(row(four(), 0, 255)), []byte{1, 4, 0, 255}},
		{tableOf(row(four(10, 128), 9, 7), row(six(), 0, 8), row(six(1, 2, 3), 24, 9)), []byte{3, 4, 9, 10, 128, 7, 6, 0, 8, 6, 24, 1, 2, 3, 9}},
		{tableOf(row(four(1, 2, 3, 4), 32, 5)), []byte{1, 4, 32, 1, 2, 3, 4, 5}},
	} {
		if got, err := table.Encode(q.of); !bytes.Equal(got, q.want) || err != api.OK {
			t.Errorf("Encode(%v): %x, %d", q.of, got, err)
		}
	}
	for _, of := range wrongTables() {
		if got, err := table.Encode(of); got != nil || err != api.ErrTable {
			t.Errorf("Encode(%v): %x, %d", of, got, err)
		}
	}
}

func TestEncodeAnswersNewMemory(t *testing.T) {
	first, _ := table.Encode(example())
	second, _ := table.Encode(example())
	clear(first)
	if !bytes.Equal(second, wire(example().Rows...)) {
		t.Errorf("two answers share memory: %x", second)
	}
}

// refused fails a test, if these bytes are not refused so.
func refused(t *testing.T, b []byte, want api.Errno) {
	t.Helper()
	if got, err := table.Decode(b); got.Rows != nil || err != want {
		t.Errorf("Decode(%x): %v, %d, not %d", b, got, err, want)
	}
}

// P9.4, P9.5: Decode of Encode is the table; less of its bytes end too early, more are none.
func TestDecodeOfEncode(t *testing.T) {
	for _, of := range rightTables() {
		b, err := table.Encode(of)
		if err != api.OK || !bytes.Equal(b, wire(of.Rows...)) {
			t.Fatalf("Encode(%v): %x, %d", of, b, err)
		}
		got, err := table.Decode(b)
		if err != api.OK {
			t.Fatalf("Decode(%x): %d", b, err)
		}
		is(t, "Decode of Encode", got, of)
		for i := range b {
			refused(t, b[:i], api.ErrShort)
		}
		for _, behind := range [][]byte{{0}, {1}, {4, 8, 11, 1}, full(30), make([]byte, 5000)} {
			refused(t, slices.Concat(b, behind), api.ErrTable)
		}
	}
}

func TestDecodeOfNothing(t *testing.T) {
	refused(t, nil, api.ErrShort)
	refused(t, []byte{}, api.ErrShort)
	for count := 1; count < 256; count++ {
		refused(t, []byte{byte(count)}, api.ErrShort)
	}
	if got, err := table.Decode([]byte{0}); len(got.Rows) != 0 || err != api.OK {
		t.Errorf("Decode(00): %v, %d", got, err)
	}
}

func TestDecodeOfWhatIsNoTable(t *testing.T) {
	for _, of := range [][]api.Row{
		{row(four(10), 8, 0)},
		{row(four(10), 8, 1), row(four(11), 8, 0)},
		{row(four(10), 8, 0), row(four(11), 8, 1)},
		{row(four(10), 8, 1), row(four(10), 8, 1)},
		{row(four(10), 8, 1), row(four(10), 8, 2)},
		{row(four(10, 1), 16, 1), row(four(10), 8, 1)},
		{row(four(10), 16, 1), row(four(10), 8, 1)},
		{row(six(), 0, 1), row(four(), 0, 1)},
		rows(41), rows(255),
	} {
		b := wire(of...)
		refused(t, b, api.ErrTable)
		refused(t, append(slices.Clone(b), 0), api.ErrTable)
		// As far as counts tell, that is not the end: which rows stand there is not asked ahead of it.
		for i := range b {
			refused(t, b[:i], api.ErrShort)
		}
		b[0]++
		if b[0] > 0 {
			refused(t, b, api.ErrShort)
		}
	}
}

func TestDecodeOfAWrongPrefix(t *testing.T) {
	ahead := wire(row(four(10), 8, 1))
	for _, wrong := range [][]byte{{0}, {5}, {255}, {7, 8}, {4, 33}, {4, 255}, {6, 129}, {4, 8 + 1, 10, 1}, {4, 1, 1}, {4, 0xff, 1, 2}, {6, 7, 1}, append([]byte{6, 127}, full(16)...)} {
		for _, behind := range [][]byte{nil, {1}, {1, 4}, {1, 4, 8, 11, 1}, full(60)} {
			for _, count := range []byte{1, 2, 40, 41, 255} {
				refused(t, slices.Concat([]byte{count}, wrong, behind), api.ErrTable)
			}
			for _, count := range []byte{2, 3, 255} {
				refused(t, slices.Concat([]byte{count}, ahead[1:], wrong, behind), api.ErrTable)
				refused(t, slices.Concat([]byte{count}, []byte{4, 8, 10, 0}, wrong, behind), api.ErrTable)
			}
			refused(t, slices.Concat([]byte{0}, wrong, behind), api.ErrTable)
			refused(t, slices.Concat(ahead, wrong, behind), api.ErrTable)
		}
	}
	// A byte that is wrong behind one that is not there is not met.
	refused(t, []byte{1, 4}, api.ErrShort)
	refused(t, []byte{1, 4, 9, 10}, api.ErrShort)
	refused(t, []byte{1, 4, 9, 10, 128}, api.ErrShort)
	refused(t, []byte{2, 4, 9, 10, 128, 0, 4}, api.ErrShort)
	refused(t, []byte{2, 4, 9, 10, 128, 0, 5}, api.ErrTable)
}

func TestDecodeOfWhateverIsATableOrNone(t *testing.T) {
	var d dice
	count := 0
	for range 300000 {
		b := []byte{byte(d.roll(4))}
		for range d.roll(16) {
			b = append(b, []byte{4, 6, 0, 1, 8, 10, 128}[d.roll(7)])
		}
		was := slices.Clone(b)
		got, err := table.Decode(b)
		if !bytes.Equal(b, was) {
			t.Fatalf("Decode(%x) made of it %x", was, b)
		}
		if err != api.OK {
			refused(t, b, err)
			continue
		}
		if again, err := table.Encode(got); err != api.OK || !bytes.Equal(again, b) {
			t.Fatalf("Encode of Decode(%x): %x, %d", b, again, err)
		}
		if len(got.Rows) > 0 {
			count++
		}
	}
	if count < 200 {
		t.Errorf("only %d of them are tables", count)
	}
}

func TestDecodeReadsNothingBehindTheEnd(t *testing.T) {
	room := wire(row(four(10), 8, 1), row(four(11), 8, 1))
	for i := range room {
		refused(t, room[:i], api.ErrShort)
	}
	got, _ := table.Decode(room)
	spoil(got)
	if again, err := table.Decode(room); err != api.OK || len(again.Rows) != 2 || again.Rows[0].Hop != 1 {
		t.Errorf("two answers share memory: %v, %d", again, err)
	}
}
