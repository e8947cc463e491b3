package table_test

import (
	"slices"
	"testing"

	"junctionbox/api"
	"junctionbox/table"
)

// P9.1

func TestCheck(t *testing.T) {
	for _, of := range rightTables() {
		if err := table.Check(of); err != api.OK {
			t.Errorf("Check(%v): %d", of, err)
		}
	}
	for _, of := range wrongTables() {
		if err := table.Check(of); err != api.ErrTable {
			t.Errorf("Check(%v): %d", of, err)
		}
	}
}

func TestCheckAsksEachHop(t *testing.T) {
	for hop := -300; hop < 600; hop++ {
		want := api.ErrTable
		if hop >= 1 && hop <= 255 {
			want = api.OK
		}
		if err := table.Check(tableOf(row(four(9), 8, 1), row(four(10), 8, hop))); err != want {
			t.Errorf("Hop %d: %d", hop, err)
		}
	}
}

func TestCheckAsksEachPlace(t *testing.T) {
	for i := range api.MaxRoutes {
		list := rows(api.MaxRoutes)
		list[i].Hop = 0
		if err := table.Check(tableOf(list...)); err != api.ErrTable {
			t.Errorf("no Hop at %d: %d", i, err)
		}
		list = rows(api.MaxRoutes)
		list[i].Prefix.Addr.Bytes[2] = 1
		if err := table.Check(tableOf(list...)); err != api.ErrTable {
			t.Errorf("no prefix at %d: %d", i, err)
		}
		if list = rows(api.MaxRoutes); i > 0 {
			list[i].Prefix = list[i-1].Prefix
			if err := table.Check(tableOf(list...)); err != api.ErrTable {
				t.Errorf("twice at %d: %d", i, err)
			}
			list = rows(api.MaxRoutes)
			list[i-1], list[i] = list[i], list[i-1]
			if err := table.Check(tableOf(list...)); err != api.ErrTable {
				t.Errorf("the wrong way round at %d: %d", i, err)
			}
		}
	}
}

func TestSame(t *testing.T) {
	all := append(rightTables()[1:10], wrongTables()...) // of two that are empty one stands in the row
	for i, a := range all {
		for j, b := range all {
			other, _ := copied(b)
			if got := table.Same(a, other); got != (i == j) {
				t.Errorf("Same(%v, %v): %v", a, b, got)
			}
		}
	}
	if !table.Same(api.Table{}, api.Table{Rows: []api.Row{}}) || !table.Same(api.Table{Rows: []api.Row{}}, api.Table{}) {
		t.Error("nil and empty rows are not one")
	}
}

func TestSameAsksEachRow(t *testing.T) {
	a := tableOf(rows(40)...)
	for i := range a.Rows {
		for _, change := range []func(r *api.Row){
			func(r *api.Row) { r.Hop++ },
			func(r *api.Row) { r.Prefix.Bits++ },
			func(r *api.Row) { r.Prefix.Addr.Version = 4 },
			func(r *api.Row) { r.Prefix.Addr.Bytes[15] = 1 },
		} {
			b, _ := copied(a)
			change(&b.Rows[i])
			if table.Same(a, b) || table.Same(b, a) {
				t.Errorf("other rows at %d are the same", i)
			}
		}
		if b := tableOf(a.Rows[:i]...); table.Same(a, b) || table.Same(b, a) {
			t.Errorf("%d rows are the same as 40", i)
		}
	}
}

// P9.2

func TestSet(t *testing.T) {
	for _, q := range []struct {
		of   api.Table
		p    api.Prefix
		hop  int
		want api.Table
	}{
		{api.Table{}, pre(four(10), 8), 1, tableOf(row(four(10), 8, 1))},
		{api.Table{}, pre(six(), 0), 255, tableOf(row(six(), 0, 255))},
		{example(), pre(four(), 0), 3, tableOf(row(four(), 0, 3), row(four(10), 8, 1), row(four(10, 1), 16, 2))},
		{example(), pre(four(10), 16), 3, tableOf(row(four(10), 8, 1), row(four(10), 16, 3), row(four(10, 1), 16, 2))},
		{example(), pre(four(10, 1), 17), 3, tableOf(row(four(10), 8, 1), row(four(10, 1), 16, 2), row(four(10, 1), 17, 3))},
		{example(), pre(six(), 0), 3, tableOf(row(four(10), 8, 1), row(four(10, 1), 16, 2), row(six(), 0, 3))},
		{example(), pre(four(10), 7), 3, tableOf(row(four(10), 7, 3), row(four(10), 8, 1), row(four(10, 1), 16, 2))},
		{example(), pre(four(10), 8), 9, tableOf(row(four(10), 8, 9), row(four(10, 1), 16, 2))},
		{example(), pre(four(10), 8), 1, example()},
		{example(), pre(four(10, 1), 16), 255, tableOf(row(four(10), 8, 1), row(four(10, 1), 16, 255))},
	} {
		got, err := table.Set(q.of, q.p, q.hop)
		if err != api.OK {
			t.Errorf("Set(%v, %v, %d): %d", q.of, q.p, q.hop, err)
		}
		is(t, "Set", got, q.want)
	}
}

func TestSetWrongArguments(t *testing.T) {
	for _, of := range []api.Table{{}, example(), tableOf(rows(40)...)} {
		for _, hop := range wrongHops() {
			for _, p := range []api.Prefix{pre(four(10), 8), pre(four(), 0), pre(six(0x20, 1), 16)} {
				refusedSet(t, of, p, hop, api.ErrArg)
			}
		}
		for _, p := range wrongPrefixes() {
			refusedSet(t, of, p, 1, api.ErrArg)
			refusedSet(t, of, p, 0, api.ErrArg)
		}
	}
	for _, of := range wrongTables() {
		refusedSet(t, of, pre(four(10), 8), 1, api.ErrTable)
		refusedSet(t, of, pre(four(10), 33), 1, api.ErrTable)
		refusedSet(t, of, pre(four(10), 8), 0, api.ErrTable)
	}
}

func refusedSet(t *testing.T, of api.Table, p api.Prefix, hop int, want api.Errno) {
	t.Helper()
	if got, err := table.Set(of, p, hop); err != want || got.Rows != nil {
		t.Errorf("Set(%v, %v, %d): %v, %d", of, p, hop, got, err)
	}
}

func TestSetOfAFullTable(t *testing.T) {
	almost, whole := tableOf(rows(39)...), tableOf(rows(40)...)
	is(t, "the last one", mustSet(t, almost, whole.Rows[39].Prefix, whole.Rows[39].Hop), whole)
	for _, p := range []api.Prefix{pre(four(), 0), pre(six(), 0), pre(six(0x20), 15), pre(six(0x20, 20, 1), 24), pre(six(0x20, 40), 16), pre(six(full(16)...), 128)} {
		refusedSet(t, whole, p, 1, api.ErrFull)
	}
	for i, r := range whole.Rows {
		want, _ := copied(whole)
		want.Rows[i].Hop = 200
		is(t, "one that is there", mustSet(t, whole, r.Prefix, 200), want)
	}
}

func TestDrop(t *testing.T) {
	for _, of := range rightTables() {
		for i, r := range of.Rows {
			got, err := table.Drop(of, r.Prefix)
			if err != api.OK {
				t.Errorf("Drop(%v, %v): %d", of, r.Prefix, err)
			}
			is(t, "Drop", got, api.Table{Rows: slices.Concat(of.Rows[:i], of.Rows[i+1:])})
		}
	}
}

func TestDropWhatIsNotThere(t *testing.T) {
	for _, p := range append(wrongPrefixes(), pre(four(), 0), pre(four(10), 7), pre(four(10), 9), pre(four(10), 16), pre(four(10, 1), 17), pre(four(11), 8), pre(six(10), 8), pre(six(), 0)) {
		for _, of := range []api.Table{{}, example(), tableOf(rows(40)...)} {
			if got, err := table.Drop(of, p); err != api.ErrNone || got.Rows != nil {
				t.Errorf("Drop(%v, %v): %v, %d", of, p, got, err)
			}
		}
	}
	for _, of := range wrongTables() {
		for _, p := range []api.Prefix{pre(four(10), 8), pre(four(), 33), pre(six(), 0), of.Rows[0].Prefix} {
			if got, err := table.Drop(of, p); err != api.ErrTable || got.Rows != nil {
				t.Errorf("Drop(%v, %v): %v, %d", of, p, got, err)
			}
		}
	}
}

func TestGet(t *testing.T) {
	for _, of := range rightTables() {
		for _, r := range of.Rows {
			if hop, ok := table.Get(of, r.Prefix); hop != r.Hop || !ok {
				t.Errorf("Get(%v, %v): %d, %v", of, r.Prefix, hop, ok)
			}
		}
	}
	for _, p := range append(wrongPrefixes(), pre(four(), 0), pre(four(10), 9), pre(four(10), 16), pre(four(11), 8), pre(six(10), 8), pre(six(), 0)) {
		for _, of := range []api.Table{{}, example(), tableOf(rows(40)...)} {
			if hop, ok := table.Get(of, p); hop != 0 || ok {
				t.Errorf("Get(%v, %v): %d, %v", of, p, hop, ok)
			}
		}
	}
	for _, of := range wrongTables() {
		for _, r := range of.Rows {
			if hop, ok := table.Get(of, r.Prefix); hop != 0 || ok {
				t.Errorf("Get(%v, %v): %d, %v", of, r.Prefix, hop, ok)
			}
		}
	}
}

// P9.3

func TestLongest(t *testing.T) {
	all := tableOf(row(four(), 0, 9), row(four(10), 8, 1), row(four(10, 1), 16, 2), row(four(10, 1, 2, 3), 32, 3), row(four(10, 128), 9, 4), row(six(10), 8, 5), row(six(full(16)...), 128, 6))
	for _, q := range []struct {
		of   api.Table
		a    api.Addr
		want api.Row
	}{
		{example(), four(10, 1, 2, 3), row(four(10, 1), 16, 2)},
		{example(), four(10, 2), row(four(10), 8, 1)},
		{example(), four(11), api.Row{}},
		{example(), six(10, 1, 2, 3), api.Row{}},
		{api.Table{}, four(10), api.Row{}},
		{all, four(11), row(four(), 0, 9)},
		{all, four(10, 1, 2, 3), row(four(10, 1, 2, 3), 32, 3)},
		{all, four(10, 1, 2, 4), row(four(10, 1), 16, 2)},
		{all, four(10, 1), row(four(10, 1), 16, 2)},
		{all, four(10, 127, 255, 255), row(four(10), 8, 1)},
		{all, four(10, 255, 255, 255), row(four(10, 128), 9, 4)},
		{all, six(10, 1), row(six(10), 8, 5)},
		{all, six(11), api.Row{}},
		{all, six(full(16)...), row(six(full(16)...), 128, 6)},
		{all, six(full(15)...), api.Row{}},
	} {
		got, ok, err := table.Longest(q.of, q.a)
		if got != q.want || ok != (q.want.Hop > 0) || err != api.OK {
			t.Errorf("Longest(%v, %v): %v, %v, %d", q.of, q.a, got, ok, err)
		}
	}
}

func TestLongestWrongArguments(t *testing.T) {
	for _, a := range wrongAddrs() {
		for _, of := range []api.Table{{}, example(), tableOf(row(four(), 0, 1), row(six(), 0, 1))} {
			if got, ok, err := table.Longest(of, a); got != (api.Row{}) || ok || err != api.ErrAddr {
				t.Errorf("Longest(%v, %v): %v, %v, %d", of, a, got, ok, err)
			}
		}
	}
	for _, of := range wrongTables() {
		for _, a := range append(wrongAddrs(), four(10), four(9), six(0x20, 1)) {
			if got, ok, err := table.Longest(of, a); got != (api.Row{}) || ok || err != api.ErrTable {
				t.Errorf("Longest(%v, %v): %v, %v, %d", of, a, got, ok, err)
			}
		}
	}
}

func TestDiffer(t *testing.T) {
	p, q, r, s := pre(four(10), 8), pre(four(10, 1), 16), pre(four(11), 8), pre(six(), 0)
	to := func(p api.Prefix, hop int) api.Row { return api.Row{Prefix: p, Hop: hop} }
	for _, c := range []struct {
		a, b api.Table
		want []api.Prefix
	}{
		{api.Table{}, api.Table{Rows: []api.Row{}}, nil},
		{example(), example(), nil},
		{example(), api.Table{}, []api.Prefix{p, q}},
		{example(), tableOf(to(p, 1)), []api.Prefix{q}},
		{example(), tableOf(to(q, 2)), []api.Prefix{p}},
		{example(), tableOf(to(p, 2), to(q, 2)), []api.Prefix{p}},
		{example(), tableOf(to(p, 2), to(q, 1)), []api.Prefix{p, q}},
		{example(), tableOf(to(r, 1), to(s, 2)), []api.Prefix{p, q, r, s}},
		{tableOf(to(p, 1), to(r, 1)), tableOf(to(q, 1), to(s, 1)), []api.Prefix{p, q, r, s}},
		{tableOf(to(p, 1), to(r, 1), to(s, 1)), tableOf(to(q, 1), to(r, 1)), []api.Prefix{p, q, s}},
	} {
		for _, both := range [][2]api.Table{{c.a, c.b}, {c.b, c.a}} {
			if got, err := table.Differ(both[0], both[1]); !slices.Equal(got, c.want) || err != api.OK {
				t.Errorf("Differ(%v, %v): %v, %d", both[0], both[1], got, err)
			}
		}
	}
	for _, of := range wrongTables() {
		for _, both := range [][2]api.Table{{of, of}, {of, example()}, {example(), of}, {of, {}}, {{}, of}} {
			if got, err := table.Differ(both[0], both[1]); got != nil || err != api.ErrTable {
				t.Errorf("Differ(%v, %v): %v, %d", both[0], both[1], got, err)
			}
		}
	}
}

func TestDifferOfFullTables(t *testing.T) {
	a := tableOf(rows(40)...)
	b, _ := copied(a)
	var want []api.Prefix
	for i := range b.Rows {
		b.Rows[i].Prefix.Bits = 17
		want = append(want, a.Rows[i].Prefix, b.Rows[i].Prefix)
	}
	if got, err := table.Differ(a, b); !slices.Equal(got, want) || err != api.OK {
		t.Errorf("Differ: %v, %d", got, err)
	}
}

// P9.5: what comes of many changes, held against the chapter's words read once more.

func TestChangesGoAsTheModelDoes(t *testing.T) {
	var d dice
	fulls := 0
	for range 12 {
		m, of := model{}, api.Table{}
		for range 300 {
			p, hop := d.prefix(), 1+d.roll(255)
			text := name(p.Addr, p.Bits)
			_, there := m[text]
			if d.roll(4) > 0 {
				next, err := table.Set(of, p, hop)
				if !there && len(m) == api.MaxRoutes {
					fulls++
					refusedSet(t, of, p, hop, api.ErrFull)
					continue
				}
				m[text] = hop
				of = next
				if got, ok := table.Get(of, p); err != api.OK || got != hop || !ok {
					t.Fatalf("Set, Get of %v: %d, %d, %v", p, err, got, ok)
				}
			} else {
				next, err := table.Drop(of, p)
				if there != (err == api.OK) {
					t.Fatalf("Drop(%v, %v): %d", of, p, err)
				}
				if delete(m, text); there {
					of = next
				}
				if got, ok := table.Get(of, p); got != 0 || ok {
					t.Fatalf("Drop, Get of %v: %d, %v", p, got, ok)
				}
			}
			is(t, "behind a change", of, m.table())
		}
	}
	if fulls < 100 {
		t.Errorf("only %d times it was full", fulls)
	}
}

func TestLongestGoesAsTheModelDoes(t *testing.T) {
	var d dice
	met, missed := 0, 0
	for range 300 {
		m := d.model(d.roll(40))
		of := m.table()
		for range 30 {
			a := d.addr()
			text := m.longest(a)
			got, ok, err := table.Longest(of, a)
			if err != api.OK || ok != (text != "") {
				t.Fatalf("Longest(%v, %v): %v, %v, %d", of, a, got, ok, err)
			}
			if !ok {
				missed++
				continue
			}
			met++
			if got != (api.Row{Prefix: named(text), Hop: m[text]}) {
				t.Fatalf("Longest(%v, %v): %v", of, a, got)
			}
		}
	}
	if met < 500 || missed < 500 {
		t.Errorf("%d matches, %d times none", met, missed)
	}
}

func TestDifferGoesAsTheModelDoes(t *testing.T) {
	var d dice
	alike := 0
	for range 500 {
		m, n, differ := d.model(d.roll(40)), d.model(d.roll(40)), model{}
		for text, hop := range m {
			if n[text] != hop {
				differ[text] = 1
			} else {
				alike++
			}
		}
		for text, hop := range n {
			if m[text] != hop {
				differ[text] = 1
			}
		}
		var want []api.Prefix
		for _, text := range differ.rising() {
			want = append(want, named(text))
		}
		if got, err := table.Differ(m.table(), n.table()); !slices.Equal(got, want) || err != api.OK {
			t.Fatalf("Differ(%v, %v): %v, %d", m.table(), n.table(), got, err)
		}
	}
	if alike < 100 {
		t.Errorf("only %d rows are alike", alike)
	}
}

func TestSetChangesNoMatchElsewhere(t *testing.T) {
	var d dice
	for range 200 {
		of := d.model(d.roll(40)).table()
		p := d.prefix()
		set := mustSet(t, of, p, 9)
		for range 20 {
			a := d.addr()
			text, whole := name(p.Addr, p.Bits), name(a, widthOf(a.Version))
			inside := len(whole) >= len(text) && whole[:len(text)] == text
			was, _, _ := table.Longest(of, a)
			now, ok, err := table.Longest(set, a)
			if !inside && now != was {
				t.Fatalf("%v set: the match of %v is %v, and was %v", p, a, now, was)
			}
			if inside && (err != api.OK || !ok || now.Prefix.Bits < p.Bits) {
				t.Fatalf("%v set: the match of %v is %v, %v, %d", p, a, now, ok, err)
			}
		}
	}
}

// R3: what is handed in is not changed and not kept, the room behind its end neither.

func TestChangesAnswerNewMemory(t *testing.T) {
	for _, of := range rightTables() {
		mine, room := copied(of)
		was := slices.Clone(room)
		ps := []api.Prefix{pre(four(), 0), pre(four(10, 1), 17), pre(six(full(16)...), 128)}
		for _, r := range of.Rows {
			ps = append(ps, r.Prefix)
		}
		for _, p := range ps {
			set, _ := table.Set(mine, p, 77)
			spoil(set)
			same, _ := table.Get(mine, p)
			set, _ = table.Set(mine, p, max(same, 1))
			spoil(set)
			dropped, _ := table.Drop(mine, p)
			spoil(dropped)
			table.Longest(mine, p.Addr)
			table.Differ(mine, example())
			table.Encode(mine)
			if !slices.Equal(room, was) {
				t.Fatalf("what was handed in is now %v", room)
			}
		}
	}
}

// spoil changes all rows of an answer, and the room behind them.
func spoil(of api.Table) {
	clear(of.Rows[:cap(of.Rows)])
}
