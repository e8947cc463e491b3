package prefix_test

import (
	"cmp"
	"math"
	"slices"
	"strconv"
	"strings"
	"testing"

	"junctionbox/api"
	"junctionbox/prefix"
)

// P5.1

func TestWidth(t *testing.T) {
	if prefix.Width(4) != 32 || prefix.Width(6) != 128 {
		t.Errorf("Width: %d, %d", prefix.Width(4), prefix.Width(6))
	}
	for _, version := range wrongVersions() {
		if got := prefix.Width(version); got != 0 {
			t.Errorf("Width(%d): %d", version, got)
		}
	}
	for version := -300; version < 300; version++ {
		if got := prefix.Width(version); got != widthOf(version) {
			t.Errorf("Width(%d): %d", version, got)
		}
	}
}

func TestCheckAddr(t *testing.T) {
	for _, a := range rightAddrs() {
		if err := prefix.CheckAddr(a); err != api.OK {
			t.Errorf("CheckAddr(%v): %d", a, err)
		}
	}
	for _, a := range wrongAddrs() {
		if err := prefix.CheckAddr(a); err != api.ErrAddr {
			t.Errorf("CheckAddr(%v): %d", a, err)
		}
	}
}

func TestCheckAddrAsksEachBit(t *testing.T) {
	for i := range 128 {
		one := fromBits(6, strings.Repeat("0", i)+"1")
		if err := prefix.CheckAddr(one); err != api.OK {
			t.Errorf("bit %d of version 6: %d", i, err)
		}
		one.Version = 4
		if err := prefix.CheckAddr(one); (err == api.OK) != (i < 32) {
			t.Errorf("bit %d of version 4: %d", i, err)
		}
	}
}

func TestCheck(t *testing.T) {
	for _, p := range rightOnes() {
		if err := prefix.Check(p); err != api.OK {
			t.Errorf("Check(%v): %d", p, err)
		}
	}
	for _, p := range wrongOnes() {
		if err := prefix.Check(p); err != api.ErrPrefix {
			t.Errorf("Check(%v): %d", p, err)
		}
	}
}

func TestCheckAsksEachBitBehindBits(t *testing.T) {
	for _, version := range []int{4, 6} {
		for i := range widthOf(version) {
			one := fromBits(version, strings.Repeat("0", i)+"1")
			for bits := range widthOf(version) + 1 {
				if err := prefix.Check(row(one, bits)); (err == api.OK) != (bits > i) {
					t.Fatalf("version %d, bit %d alone, Bits %d: %d", version, i, bits, err)
				}
			}
		}
	}
}

// P5.2

func TestBit(t *testing.T) {
	for _, q := range []struct {
		a       api.Addr
		i, want int
	}{
		{four(128), 0, 1}, {four(128), 1, 0}, {four(1), 7, 1}, {four(1), 0, 0}, {four(0, 128), 8, 1}, {four(0, 128), 7, 0},
		{four(10, 1, 2, 3), 4, 1}, {four(10, 1, 2, 3), 31, 1}, {four(10, 1, 2, 3), 30, 1}, {four(10, 1, 2, 3), 29, 0},
		{six(0x20, 1), 2, 1}, {six(0x20, 1), 15, 1}, {six(full(16)...), 127, 1}, {six(0, 0, 0, 0, 64), 33, 1},
	} {
		if got := prefix.Bit(q.a, q.i); got != q.want {
			t.Errorf("Bit(%v, %d): %d", q.a, q.i, got)
		}
	}
}

func TestNibble(t *testing.T) {
	for _, q := range []struct {
		a       api.Addr
		i, want int
	}{
		{four(10, 1, 2, 3), 1, 10}, {four(10, 1, 2, 3), 0, 0}, {four(10, 1, 2, 3), 7, 3}, {four(10, 1, 2, 0x3f), 6, 3}, {four(0xf0), 0, 15}, {four(0xf0), 1, 0},
		{six(0x20, 1, 0xd, 0xb8), 0, 2}, {six(0x20, 1, 0xd, 0xb8), 5, 13}, {six(0x20, 1, 0xd, 0xb8), 6, 11}, {six(0x20, 1, 0xd, 0xb8), 7, 8}, {six(append(make([]byte, 15), 0x9c)...), 31, 12},
	} {
		if got := prefix.Nibble(q.a, q.i); got != q.want {
			t.Errorf("Nibble(%v, %d): %d", q.a, q.i, got)
		}
	}
}

func TestBitsAndNibblesAreTheBytes(t *testing.T) {
	for _, a := range rightAddrs() {
		text := spelled(a)
		for i := range len(text) {
			if got := prefix.Bit(a, i); got != int(text[i]-'0') {
				t.Errorf("Bit(%v, %d): %d", a, i, got)
			}
		}
		for i := range len(text) / 4 {
			if want, _ := strconv.ParseInt(text[4*i:4*i+4], 2, 8); prefix.Nibble(a, i) != int(want) {
				t.Errorf("Nibble(%v, %d): %d", a, i, prefix.Nibble(a, i))
			}
		}
	}
}

func TestBitsAndNibblesBeyondTheEnds(t *testing.T) {
	for _, a := range []api.Addr{four(full(4)...), six(full(16)...)} {
		width := widthOf(a.Version)
		for _, i := range []int{-1, -2, -4, -8, -128, math.MinInt, math.MinInt + 1, math.MinInt / 4, width, width + 1, 128, 256, 1 << 32, 1 << 61, 1 << 62, 3 << 61, math.MaxInt / 4, math.MaxInt/4 + 1, math.MaxInt} {
			if prefix.Bit(a, i) != 0 || prefix.Nibble(a, i) != 0 {
				t.Errorf("Bit, Nibble(%v, %d): %d, %d", a, i, prefix.Bit(a, i), prefix.Nibble(a, i))
			}
		}
		if prefix.Bit(a, 0) != 1 || prefix.Bit(a, width-1) != 1 || prefix.Nibble(a, 0) != 15 || prefix.Nibble(a, width/4-1) != 15 || prefix.Nibble(a, width/4) != 0 {
			t.Errorf("Bit, Nibble at the ends of %v", a)
		}
	}
}

func TestBitsAndNibblesOfWhatIsNoAddress(t *testing.T) {
	for _, a := range wrongAddrs() {
		for i := -2; i < 140; i++ {
			if prefix.Bit(a, i) != 0 || prefix.Nibble(a, i) != 0 {
				t.Fatalf("Bit, Nibble(%v, %d): %d, %d", a, i, prefix.Bit(a, i), prefix.Nibble(a, i))
			}
		}
	}
}

func TestOf(t *testing.T) {
	for _, q := range []struct {
		a    api.Addr
		bits int
		want api.Prefix
	}{
		{four(10, 1, 2, 3), 8, row(four(10), 8)},
		{four(10, 1, 2, 3), 0, row(four(), 0)},
		{four(10, 1, 2, 3), 32, row(four(10, 1, 2, 3), 32)},
		{four(10, 1, 2, 3), 31, row(four(10, 1, 2, 2), 31)},
		{four(10, 1, 2, 3), 7, row(four(10), 7)},
		{four(10, 1, 2, 3), 6, row(four(8), 6)},
		{four(10, 129, 2, 3), 9, row(four(10, 128), 9)},
		{six(full(16)...), 128, row(six(full(16)...), 128)},
		{six(full(16)...), 0, row(six(), 0)},
		{six(full(16)...), 33, row(six(255, 255, 255, 255, 128), 33)},
		{six(0x20, 1, 0xd, 0xb8), 20, row(six(0x20, 1), 20)},
	} {
		if got, err := prefix.Of(q.a, q.bits); got != q.want || err != api.OK {
			t.Errorf("Of(%v, %d): %v, %d", q.a, q.bits, got, err)
		}
	}
}

func TestOfIsTheOneThatContains(t *testing.T) {
	for _, a := range rightAddrs() {
		for bits := range widthOf(a.Version) + 1 {
			got, err := prefix.Of(a, bits)
			if err != api.OK || got != row(fromBits(a.Version, spelled(a)[:bits]), bits) || prefix.Check(got) != api.OK || !prefix.Has(got, a) {
				t.Fatalf("Of(%v, %d): %v, %d", a, bits, got, err)
			}
		}
	}
}

func TestOfWrongArguments(t *testing.T) {
	for _, a := range rightAddrs() {
		for _, bits := range []int{-1, -8, math.MinInt, widthOf(a.Version) + 1, 129, 256, 1<<32 + 8, math.MaxInt} {
			if got, err := prefix.Of(a, bits); err != api.ErrArg || got != (api.Prefix{}) {
				t.Errorf("Of(%v, %d): %v, %d", a, bits, got, err)
			}
		}
	}
	for _, a := range wrongAddrs() {
		for _, bits := range []int{0, 8, 32, 128, -1, 129, math.MaxInt} {
			if got, err := prefix.Of(a, bits); err != api.ErrAddr || got != (api.Prefix{}) {
				t.Errorf("Of(%v, %d): %v, %d", a, bits, got, err)
			}
		}
	}
}

// P5.3

func TestHas(t *testing.T) {
	for _, q := range []struct {
		p    api.Prefix
		a    api.Addr
		want bool
	}{
		{row(four(10), 8), four(10, 1, 2, 3), true},
		{row(four(10), 8), four(10), true},
		{row(four(10), 8), four(10, 255, 255, 255), true},
		{row(four(10), 8), four(11), false},
		{row(four(10), 8), four(9, 255, 255, 255), false},
		{row(four(10, 128), 9), four(10, 1), false},
		{row(four(10, 128), 9), four(10, 200), true},
		{row(four(), 0), four(255, 255, 255, 255), true},
		{row(four(), 0), four(), true},
		{row(four(), 0), six(), false},
		{row(six(), 0), four(), false},
		{row(six(), 0), six(full(16)...), true},
		{row(six(10), 8), four(10, 1, 2, 3), false},
		{row(four(10), 8), six(10, 1, 2, 3), false},
		{row(four(10, 1, 2, 3), 32), four(10, 1, 2, 3), true},
		{row(four(10, 1, 2, 3), 32), four(10, 1, 2, 2), false},
		{row(six(full(16)...), 128), six(full(16)...), true},
		{row(six(full(16)...), 128), six(full(15)...), false},
	} {
		if got := prefix.Has(q.p, q.a); got != q.want {
			t.Errorf("Has(%v, %v): %v", q.p, q.a, got)
		}
	}
}

func TestHasIsTheFirstBits(t *testing.T) {
	var d dice
	count := 0
	for range 20000 {
		p, a := d.prefix(), d.addr()
		want := p.Addr.Version == a.Version && strings.HasPrefix(spelled(a), begun(p))
		if prefix.Has(p, a) != want {
			t.Fatalf("Has(%v, %v): %v", p, a, !want)
		}
		if want {
			count++
		}
	}
	if count < 500 {
		t.Errorf("only %d of them contain", count)
	}
}

func TestHolds(t *testing.T) {
	for _, q := range []struct {
		p, q api.Prefix
		want bool
	}{
		{row(four(10), 8), row(four(10, 1), 16), true},
		{row(four(10, 1), 16), row(four(10), 8), false},
		{row(four(10), 8), row(four(10), 8), true},
		{row(four(10), 8), row(four(10), 16), true},
		{row(four(10), 16), row(four(10), 8), false},
		{row(four(10), 8), row(four(10), 7), false},
		{row(four(), 0), row(four(), 0), true},
		{row(six(), 0), row(six(), 0), true},
		{row(four(), 0), row(four(), 32), true},
		{row(four(), 32), row(four(), 0), false},
		{row(four(), 0), row(six(), 0), false},
		{row(six(), 0), row(four(), 0), false},
		{row(six(), 0), row(four(10), 8), false},
		{row(four(10), 8), row(six(10), 8), false},
		{row(four(10), 8), row(four(11, 1), 16), false},
		{row(six(full(16)...), 128), row(six(full(16)...), 128), true},
		{row(six(128), 1), row(six(full(16)...), 128), true},
		{row(six(), 1), row(six(full(16)...), 128), false},
	} {
		mayBe(t, q.p, q.q)
		if got := prefix.Holds(q.p, q.q); got != q.want {
			t.Errorf("Holds(%v, %v): %v", q.p, q.q, got)
		}
	}
}

func TestHoldsIsTheFirstBits(t *testing.T) {
	var d dice
	for range 20000 {
		p, q := d.prefix(), d.prefix()
		want := p.Addr.Version == q.Addr.Version && strings.HasPrefix(begun(q), begun(p))
		if prefix.Holds(p, q) != want {
			t.Fatalf("Holds(%v, %v): %v", p, q, !want)
		}
	}
}

func TestHasAndHoldsOfWhatMayNotBe(t *testing.T) {
	for _, p := range wrongOnes() {
		if prefix.Has(p, p.Addr) || prefix.Holds(p, p) {
			t.Errorf("%v contains its own", p)
		}
		for _, q := range []api.Prefix{row(four(), 0), row(six(), 0), row(four(10), 8), row(four(), 32), row(six(), 128)} {
			if prefix.Holds(p, q) || prefix.Holds(q, p) || prefix.Has(p, q.Addr) {
				t.Errorf("Holds, Has of %v and %v", p, q)
			}
		}
	}
	for _, a := range wrongAddrs() {
		for _, p := range []api.Prefix{row(four(), 0), row(six(), 0), row(four(10), 8), row(a, 0), row(a, 32), row(a, 128)} {
			if prefix.Has(p, a) {
				t.Errorf("Has(%v, %v)", p, a)
			}
		}
	}
}

func TestCompare(t *testing.T) {
	rising := []api.Prefix{
		row(four(), 0), row(four(), 1), row(four(), 32), row(four(0, 0, 0, 1), 32), row(four(9, 255), 16),
		row(four(10), 7), row(four(10), 8), row(four(10), 16), row(four(10, 1), 16), row(four(10, 1), 17), row(four(10, 128), 9), row(four(11), 8), row(four(128), 1), row(four(255, 255, 255, 255), 32),
		row(six(), 0), row(six(), 128), row(six(append(make([]byte, 15), 1)...), 128), row(six(10), 8), row(six(10, 1), 16), row(six(full(16)...), 128),
	}
	mayBe(t, rising...)
	for i, p := range rising {
		for j, q := range rising {
			if got := prefix.Compare(p, q); got != cmp.Compare(i, j) {
				t.Errorf("Compare(%v, %v): %d", p, q, got)
			}
		}
	}
}

func TestCompareOfWhatever(t *testing.T) {
	rising := []api.Prefix{
		row(addrOf(math.MinInt), 9), row(addrOf(-6, full(16)...), 0), row(addrOf(-4), 200), row(api.Addr{}, 0), row(addrOf(0, full(16)...), -1), row(addrOf(3), 5),
		row(four(), math.MinInt), row(four(), -1), row(four(), 0), row(four(), 33), row(four(), 300), row(four(), math.MaxInt),
		row(four(append(make([]byte, 15), 1)...), 0), row(four(append(make([]byte, 14), 1, 0)...), 0), row(four(0, 0, 0, 0, 1), -5), row(four(10, 1), 0), row(four(10, 1), 4),
		row(addrOf(5), 0), row(six(), -1), row(six(), 129), row(six(full(16)...), 0), row(addrOf(7), 1), row(addrOf(256+4), 0), row(addrOf(math.MaxInt), -2), row(addrOf(math.MaxInt), math.MaxInt),
	}
	for i, p := range rising {
		for j, q := range rising {
			if got := prefix.Compare(p, q); got != cmp.Compare(i, j) {
				t.Errorf("Compare(%v, %v): %d", p, q, got)
			}
		}
	}
}

func TestCompareAsksEachByte(t *testing.T) {
	for i := range 16 {
		var p, q api.Prefix
		p.Addr.Bytes[i], q.Addr.Bytes[i] = 127, 128
		for j := i + 1; j < 16; j++ {
			p.Addr.Bytes[j] = 255
		}
		p.Bits = 9
		if prefix.Compare(p, q) != -1 || prefix.Compare(q, p) != 1 || prefix.Compare(p, p) != 0 {
			t.Errorf("byte %d: %d, %d, %d", i, prefix.Compare(p, q), prefix.Compare(q, p), prefix.Compare(p, p))
		}
	}
}

// P5.5: Holds is an order, and Compare goes with it.

func TestHoldsIsAnOrder(t *testing.T) {
	var d dice
	all := append(rightOnes(), wrongOnes()...)
	for range 300 {
		p := all[d.roll(len(all))]
		if prefix.Holds(p, p) != (prefix.Check(p) == api.OK) {
			t.Fatalf("Holds(%v, itself)", p)
		}
		for _, q := range all {
			if prefix.Holds(p, q) && prefix.Holds(q, p) && p != q {
				t.Fatalf("%v and %v hold each other", p, q)
			}
			if prefix.Holds(p, q) && p != q && prefix.Compare(p, q) != -1 {
				t.Fatalf("%v holds %v, and does not stand ahead of it", p, q)
			}
			if r := all[d.roll(len(all))]; prefix.Holds(p, q) && prefix.Holds(q, r) && !prefix.Holds(p, r) {
				t.Fatalf("%v holds %v, which holds %v", p, q, r)
			}
		}
	}
}

func TestCompareIsAnOrder(t *testing.T) {
	all := append(rightOnes(), wrongOnes()...)
	slices.SortStableFunc(all, prefix.Compare)
	for i := range all {
		for _, j := range []int{0, i / 2, max(i-1, 0)} {
			if prefix.Compare(all[j], all[i]) > 0 || prefix.Compare(all[i], all[j]) != -prefix.Compare(all[j], all[i]) {
				t.Fatalf("%v stands behind %v", all[j], all[i])
			}
		}
		if i > 0 && (prefix.Compare(all[i-1], all[i]) == 0) != (all[i-1] == all[i]) {
			t.Fatalf("Compare(%v, %v)", all[i-1], all[i])
		}
	}
}

func TestWhoContainsAnAddress(t *testing.T) {
	var d dice
	for range 300 {
		a := d.addr()
		var row []api.Prefix
		for bits := range widthOf(a.Version) + 1 {
			p, err := prefix.Of(a, bits)
			if err != api.OK || !prefix.Has(p, a) {
				t.Fatalf("Of(%v, %d): %v, %d", a, bits, p, err)
			}
			for _, shorter := range row {
				if !prefix.Holds(shorter, p) || prefix.Holds(p, shorter) || prefix.Compare(shorter, p) != -1 {
					t.Fatalf("%v and %v both contain %v", shorter, p, a)
				}
			}
			row = append(row, p)
		}
	}
}

func TestOfTwoThatContainOneHoldsTheOther(t *testing.T) {
	var d dice
	count := 0
	for range 40000 {
		p, q, a := d.prefix(), d.prefix(), d.addr()
		if prefix.Has(p, a) && prefix.Has(q, a) {
			count++
			if !prefix.Holds(p, q) && !prefix.Holds(q, p) {
				t.Fatalf("%v and %v both contain %v", p, q, a)
			}
		}
		if prefix.Holds(p, q) && prefix.Has(q, a) && !prefix.Has(p, a) {
			t.Fatalf("%v holds %v, which contains %v", p, q, a)
		}
	}
	if count < 100 {
		t.Errorf("only %d of them", count)
	}
}
