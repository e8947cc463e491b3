package route_test

import (
	"slices"
	"testing"

	"junctionbox/api"
	"junctionbox/route"
	"junctionbox/table"
)

// P11.1

func TestCheckBatch(t *testing.T) {
	for _, b := range rightBatches() {
		if err := route.CheckBatch(b); err != api.OK {
			t.Errorf("CheckBatch(%v): %d", b, err)
		}
	}
	for _, b := range wrongBatches() {
		if err := route.CheckBatch(b); err != api.ErrBatch {
			t.Errorf("CheckBatch(%v): %d", b, err)
		}
	}
}

func TestCheckBatchAsksEachUpdate(t *testing.T) {
	for i := range 8 {
		for _, u := range wrongUpdates() {
			b := batch(puts(0, 8)...)
			b.Updates[i] = u
			if err := route.CheckBatch(b); err != api.ErrBatch {
				t.Errorf("%v at %d: %d", u, i, err)
			}
		}
	}
}

func TestCheck(t *testing.T) {
	for _, r := range rightRibs() {
		if err := route.Check(r); err != api.OK {
			t.Errorf("Check(%v): %d", r, err)
		}
	}
	for _, r := range wrongRibs() {
		if err := route.Check(r); err != api.ErrRib {
			t.Errorf("Check(%v): %d", r, err)
		}
	}
}

func TestCheckAsksEachPlace(t *testing.T) {
	for i := range 160 {
		for _, change := range []func(x *api.Route){
			func(x *api.Route) { x.Prefix.Addr.Bytes[2] = 1 },
			func(x *api.Route) { x.Source = 0 },
			func(x *api.Route) { x.Source = 5 },
			func(x *api.Route) { x.Pref = 256 },
			func(x *api.Route) { x.Pref = -1 },
			func(x *api.Route) { x.Hop = 0 },
			func(x *api.Route) { x.Hop = 256 },
		} {
			l := wide(40, 4)
			change(&l[i])
			if err := route.Check(rib(l...)); err != api.ErrRib {
				t.Errorf("%v at %d: %d", l[i], i, err)
			}
		}
		if l := wide(40, 4); i > 0 {
			l[i-1], l[i] = l[i], l[i-1]
			if err := route.Check(rib(l...)); err != api.ErrRib {
				t.Errorf("the wrong way round at %d: %d", i, err)
			}
			if l[i] = l[i-1]; route.Check(rib(l...)) != api.ErrRib {
				t.Errorf("twice at %d", i)
			}
		}
		l := wide(40, 4)
		if err := route.Check(rib(slices.Delete(l, i, i+1)...)); err != api.OK {
			t.Errorf("without that at %d: %d", i, err)
		}
	}
}

func TestSameBatch(t *testing.T) {
	all := append(rightBatches()[:8], wrongBatches()[2:9]...)
	for i, a := range all {
		for j, b := range all {
			if got := route.SameBatch(a, api.Batch{Updates: slices.Clone(b.Updates)}); got != (i == j) {
				t.Errorf("SameBatch(%v, %v): %v", a, b, got)
			}
		}
	}
	if !route.SameBatch(api.Batch{}, api.Batch{Updates: []api.Update{}}) || !route.SameBatch(api.Batch{Updates: []api.Update{}}, api.Batch{}) {
		t.Error("nil and empty updates are not one")
	}
}

func TestSameBatchAsksEachUpdate(t *testing.T) {
	a := batch(puts(0, 8)...)
	for i := range a.Updates {
		for _, change := range []func(u *api.Update){
			func(u *api.Update) { u.Prefix.Bits++ },
			func(u *api.Update) { u.Prefix.Addr.Version = 4 },
			func(u *api.Update) { u.Prefix.Addr.Bytes[15] = 1 },
			func(u *api.Update) { u.Source++ },
			func(u *api.Update) { u.Gone = true },
			func(u *api.Update) { u.Pref++ },
			func(u *api.Update) { u.Hop++ },
		} {
			b := batch(slices.Clone(a.Updates)...)
			change(&b.Updates[i])
			if route.SameBatch(a, b) || route.SameBatch(b, a) {
				t.Errorf("other updates at %d are the same", i)
			}
		}
		if b := batch(a.Updates[:i]...); route.SameBatch(a, b) || route.SameBatch(b, a) {
			t.Errorf("%d updates are the same as 8", i)
		}
	}
	turned := batch(slices.Clone(a.Updates)...)
	slices.Reverse(turned.Updates)
	if route.SameBatch(a, turned) {
		t.Error("updates in another order are the same")
	}
}

func TestSame(t *testing.T) {
	all := append(rightRibs()[1:8], wrongRibs()[:10]...)
	for i, a := range all {
		for j, b := range all {
			if got := route.Same(a, api.Rib{Routes: slices.Clone(b.Routes)}); got != (i == j) {
				t.Errorf("Same(%v, %v): %v", a, b, got)
			}
		}
	}
	if !route.Same(api.Rib{}, api.Rib{Routes: []api.Route{}}) || !route.Same(api.Rib{Routes: []api.Route{}}, api.Rib{}) {
		t.Error("nil and empty candidates are not one")
	}
}

func TestSameAsksEachCandidate(t *testing.T) {
	a := rib(wide(40, 4)...)
	for i := range a.Routes {
		for _, change := range []func(x *api.Route){
			func(x *api.Route) { x.Prefix.Bits++ },
			func(x *api.Route) { x.Prefix.Addr.Version = 4 },
			func(x *api.Route) { x.Prefix.Addr.Bytes[15] = 1 },
			func(x *api.Route) { x.Source++ },
			func(x *api.Route) { x.Pref++ },
			func(x *api.Route) { x.Hop++ },
		} {
			b := rib(slices.Clone(a.Routes)...)
			change(&b.Routes[i])
			if route.Same(a, b) || route.Same(b, a) {
				t.Errorf("other candidates at %d are the same", i)
			}
		}
		if b := rib(a.Routes[:i]...); route.Same(a, b) || route.Same(b, a) {
			t.Errorf("%d candidates are the same as 160", i)
		}
	}
}

// P11.2

func TestApply(t *testing.T) {
	p, q := pfx(), qfx()
	two := rib(cand(p, 1, 5, 9), cand(p, 2, 5, 7))
	for _, c := range []struct {
		of   api.Rib
		b    api.Batch
		want api.Rib
	}{
		{api.Rib{}, batch(put(p, 2, 5, 7)), rib(cand(p, 2, 5, 7))},
		{api.Rib{}, batch(put(p, 2, 5, 7), put(p, 1, 5, 9)), two},
		{two, batch(gone(p, 1)), rib(cand(p, 2, 5, 7))},
		{two, batch(gone(p, 2)), rib(cand(p, 1, 5, 9))},
		{two, batch(gone(p, 2), gone(p, 1)), api.Rib{}},
		{two, batch(put(p, 1, 5, 9)), two},
		{two, batch(put(p, 1, 0, 1)), rib(cand(p, 1, 0, 1), cand(p, 2, 5, 7))},
		{two, batch(put(p, 2, 255, 255)), rib(cand(p, 1, 5, 9), cand(p, 2, 255, 255))},
		{two, batch(gone(p, 1), put(p, 4, 0, 3)), rib(cand(p, 2, 5, 7), cand(p, 4, 0, 3))},
		{two, batch(put(q, 1, 0, 3), put(four(0), 4, 0, 2)), rib(cand(four(0), 4, 0, 2), cand(p, 1, 5, 9), cand(p, 2, 5, 7), cand(q, 1, 0, 3))},
		{two, batch(put(six(0), 1, 0, 3), put(four(16, 10), 1, 0, 2), gone(p, 2)), rib(cand(p, 1, 5, 9), cand(four(16, 10), 1, 0, 2), cand(six(0), 1, 0, 3))},
		{two, batch(puts(0, 8)...), rib(slices.Concat(two.Routes, []api.Route{
			cand(nth(0), 1, 0, 1), cand(nth(1), 1, 0, 1), cand(nth(2), 1, 0, 1), cand(nth(3), 1, 0, 1),
			cand(nth(4), 1, 0, 1), cand(nth(5), 1, 0, 1), cand(nth(6), 1, 0, 1), cand(nth(7), 1, 0, 1),
		})...)},
	} {
		sameRib(t, "Apply", must(t, c.of, c.b), c.want)
	}
}

func TestApplyWrongArguments(t *testing.T) {
	for _, b := range wrongBatches() {
		refused(t, api.Rib{}, b, api.ErrBatch)
		refused(t, rib(cand(pfx(), 1, 0, 1)), b, api.ErrBatch)
	}
	// What is no batch goes ahead of a candidate that is not there, and of too many prefixes.
	refused(t, api.Rib{}, batch(gone(pfx(), 1), put(qfx(), 1, 0, 0)), api.ErrBatch)
	refused(t, rib(wide(40, 1)...), batch(put(pfx(), 1, 0, 1), put(pfx(), 1, 0, 1)), api.ErrBatch)
	for _, r := range wrongRibs() {
		refused(t, r, batch(put(pfx(), 1, 0, 1)), api.ErrRib)
		refused(t, r, batch(gone(four(8, 77), 1)), api.ErrRib)
		refused(t, r, batch(), api.ErrRib)
	}
}

func TestApplyWhatIsNotThere(t *testing.T) {
	p, q := pfx(), qfx()
	two := rib(cand(p, 1, 5, 9), cand(p, 2, 5, 7))
	for _, b := range []api.Batch{
		batch(gone(p, 3)), batch(gone(p, 4)), batch(gone(q, 1)), batch(gone(four(7, 10), 1)), batch(gone(four(9, 10), 1)), batch(gone(six(8, 10), 1)), batch(gone(four(0), 1)),
		batch(gone(p, 1), gone(p, 3)), batch(gone(p, 3), gone(p, 1)), batch(put(p, 1, 1, 1), put(q, 2, 1, 1), gone(q, 1)),
	} {
		refused(t, two, b, api.ErrNone)
		refused(t, api.Rib{}, b, api.ErrNone)
	}
	refused(t, api.Rib{}, batch(gone(p, 1)), api.ErrNone)
	// It goes ahead of too many prefixes, whichever comes first.
	whole := rib(wide(40, 1)...)
	refused(t, whole, batch(put(p, 1, 0, 1), gone(q, 1)), api.ErrNone)
	refused(t, whole, batch(gone(q, 1), put(p, 1, 0, 1)), api.ErrNone)
}

func TestApplyToAFullRib(t *testing.T) {
	almost, whole := rib(wide(39, 4)...), rib(wide(40, 4)...)
	for _, u := range []api.Update{put(four(0), 1, 0, 1), put(six(15, 0x20), 1, 0, 1), put(six(17, 0x20, 7), 3, 0, 1), put(six(128, full(16)...), 4, 255, 255)} {
		if got := must(t, almost, batch(u)); len(got.Routes) != 157 {
			t.Errorf("%v to 39 prefixes: %v", u, got)
		}
		refused(t, almost, batch(u, put(pfx(), 1, 0, 1)), api.ErrFull)
		refused(t, whole, batch(u), api.ErrFull)
		// One candidate of a prefix goes, and others of it stay.
		refused(t, whole, batch(u, gone(nth(5), 1), gone(nth(5), 2), gone(nth(5), 3)), api.ErrFull)
		// It counts what there is behind all, not on the way.
		for _, b := range []api.Batch{
			batch(u, gone(nth(5), 1), gone(nth(5), 2), gone(nth(5), 3), gone(nth(5), 4)),
			batch(gone(nth(5), 4), gone(nth(5), 1), gone(nth(5), 2), gone(nth(5), 3), u),
		} {
			if got := must(t, whole, b); len(got.Routes) != 157 || !slices.Contains(got.Routes, cand(u.Prefix, u.Source, u.Pref, u.Hop)) {
				t.Errorf("%v in the stead of a prefix: %v", u, got)
			}
		}
	}
	for i := range 40 {
		other := put(nth(i), 2, 99, 98)
		if got := must(t, whole, batch(other)); got.Routes[4*i+1] != cand(nth(i), 2, 99, 98) || len(got.Routes) != 160 {
			t.Errorf("another candidate of a prefix that is there: %v", got)
		}
		if got := must(t, rib(wide(40, 1)...), batch(other)); got.Routes[i+1] != cand(nth(i), 2, 99, 98) || len(got.Routes) != 41 {
			t.Errorf("one candidate more of a prefix that is there: %v", got)
		}
	}
}

func TestFold(t *testing.T) {
	p, q := pfx(), qfx()
	for _, c := range []struct {
		l    []api.Batch
		want api.Rib
		err  api.Errno
	}{
		{nil, api.Rib{}, api.OK},
		{[]api.Batch{}, api.Rib{}, api.OK},
		{[]api.Batch{batch(put(p, 2, 5, 7))}, rib(cand(p, 2, 5, 7)), api.OK},
		{[]api.Batch{batch(put(p, 2, 5, 7)), batch(put(q, 1, 0, 1)), batch(put(p, 1, 5, 9), put(p, 2, 5, 8))}, rib(cand(p, 1, 5, 9), cand(p, 2, 5, 8), cand(q, 1, 0, 1)), api.OK},
		{[]api.Batch{batch(put(p, 2, 5, 7)), batch(gone(p, 2)), batch(put(q, 1, 0, 1))}, rib(cand(q, 1, 0, 1)), api.OK},
		{[]api.Batch{batch(put(p, 2, 5, 7)), batch(gone(p, 2)), batch(gone(p, 2))}, api.Rib{}, api.ErrNone},
		{[]api.Batch{batch(gone(p, 2)), batch(put(p, 2, 5, 7))}, api.Rib{}, api.ErrNone},
		{[]api.Batch{batch(gone(p, 2)), {}}, api.Rib{}, api.ErrNone},
		{[]api.Batch{{}, batch(gone(p, 2))}, api.Rib{}, api.ErrBatch},
		{[]api.Batch{{}}, api.Rib{}, api.ErrBatch},
		{[]api.Batch{batch(puts(0, 8)...), batch(puts(8, 8)...), batch(puts(16, 8)...), batch(puts(24, 8)...), batch(puts(32, 8)...), batch(puts(40, 1)...), {}}, api.Rib{}, api.ErrFull},
	} {
		got, err := route.Fold(c.l)
		if err != c.err || err != api.OK && got.Routes != nil {
			t.Errorf("Fold(%v): %v, %d", c.l, got, err)
		}
		sameRib(t, "Fold", got, c.want)
	}
}

// P11.3

func TestBest(t *testing.T) {
	p, q := pfx(), qfx()
	row := func(p api.Prefix, hop int) api.Row { return api.Row{Prefix: p, Hop: hop} }
	for _, c := range []struct {
		of   api.Rib
		want []api.Row
	}{
		{api.Rib{}, nil},
		{rib(cand(p, 3, 0, 7)), []api.Row{row(p, 7)}},
		{rib(cand(p, 1, 5, 9), cand(p, 2, 5, 7)), []api.Row{row(p, 9)}},
		{rib(cand(p, 1, 4, 9), cand(p, 2, 5, 7)), []api.Row{row(p, 7)}},
		{rib(cand(p, 1, 6, 9), cand(p, 2, 5, 7)), []api.Row{row(p, 9)}},
		{rib(cand(p, 1, 4, 9), cand(p, 2, 5, 7), cand(p, 3, 5, 200), cand(p, 4, 4, 1)), []api.Row{row(p, 7)}},
		{rib(cand(p, 1, 0, 1), cand(p, 2, 1, 2), cand(p, 3, 2, 3), cand(p, 4, 255, 4)), []api.Row{row(p, 4)}},
		{rib(cand(p, 2, 0, 255), cand(p, 4, 0, 1)), []api.Row{row(p, 255)}},
		{rib(cand(p, 1, 9, 1), cand(q, 1, 0, 2), cand(q, 2, 1, 3), cand(six(8, 10), 4, 0, 4)), []api.Row{row(p, 1), row(q, 3), row(six(8, 10), 4)}},
	} {
		if got, err := route.Best(c.of); !slices.Equal(got.Rows, c.want) || err != api.OK {
			t.Errorf("Best(%v): %v, %d", c.of, got, err)
		}
	}
	for _, r := range wrongRibs() {
		if got, err := route.Best(r); got.Rows != nil || err != api.ErrRib {
			t.Errorf("Best(%v): %v, %d", r, got, err)
		}
	}
}

func TestBestOfAllOrdersOfPrefs(t *testing.T) {
	for i := range 256 {
		m := model{}
		for source := range 4 {
			m[key{name(pfx()), source + 1}] = value{i >> (2 * source) % 4, 10 + source}
		}
		if got, err := route.Best(m.rib()); err != api.OK || len(got.Rows) != 1 || got.Rows[0].Hop != m.best(name(pfx())) {
			t.Errorf("Best(%v): %v, %d", m.rib(), got, err)
		}
	}
}

// P11.5: the table of a RIB may be; each of its rows is of a candidate, and no candidate of that prefix is better.
func TestBestIsATable(t *testing.T) {
	for _, r := range rightRibs() {
		got, err := route.Best(r)
		if err != api.OK || table.Check(got) != api.OK {
			t.Fatalf("Best(%v): %v, %d", r, got, err)
		}
		for _, x := range r.Routes {
			hop, found := table.Get(got, x.Prefix)
			if !found {
				t.Fatalf("Best(%v): no row of %v", r, x)
			}
			i := slices.IndexFunc(r.Routes, func(y api.Route) bool { return y.Prefix == x.Prefix && y.Hop == hop && y.Pref >= x.Pref })
			if i < 0 {
				t.Fatalf("Best(%v): %v is better", r, x)
			}
		}
		for _, row := range got.Rows {
			if !slices.ContainsFunc(r.Routes, func(x api.Route) bool { return x.Prefix == row.Prefix && x.Hop == row.Hop }) {
				t.Fatalf("Best(%v): %v is of no candidate", r, row)
			}
		}
	}
}

// What comes of many batches, held against the chapter's words read once more.
func TestBatchesGoAsTheModelDoes(t *testing.T) {
	var d dice
	told := map[api.Errno]int{}
	for range 12 {
		m, r := model{}, api.Rib{}
		var all []api.Batch
		for range 150 {
			b := d.batch(m)
			next, want := m.apply(b)
			told[want]++
			got, err := route.Apply(r, b)
			if err != want || err != api.OK && got.Routes != nil {
				t.Fatalf("Apply(%v, %v): %v, %d, not %d", r, b, got, err, want)
			}
			if err == api.OK {
				m, r, all = next, got, append(all, b)
			} else if again, err := route.Fold(append(slices.Clone(all), b)); again.Routes != nil || err != want {
				t.Fatalf("Fold of one that is refused at last: %v, %d, not %d", again, err, want)
			}
			sameRib(t, "behind a batch", r, m.rib())
			if best, err := route.Best(r); err != api.OK || !table.Same(best, m.table()) {
				t.Fatalf("Best(%v): %v, %d", r, best, err)
			}
		}
		folded, err := route.Fold(all)
		if err != api.OK {
			t.Fatalf("Fold: %d", err)
		}
		sameRib(t, "Fold", folded, r)
	}
	if told[api.OK] < 100 || told[api.ErrNone] < 100 || told[api.ErrFull] < 100 {
		t.Errorf("the batches come to %v", told)
	}
}

// P11.5: a batch that takes back what another one brought leads back, if those were not there.
func TestWhatIsTakenBackLeadsBack(t *testing.T) {
	var d dice
	count := 0
	for range 2000 {
		m := d.model(d.roll(30))
		was := m.rib()
		var brings, takes api.Batch
		for _, u := range d.batch(m).Updates {
			if _, there := m[key{name(u.Prefix), u.Source}]; !there && !u.Gone {
				brings.Updates = append(brings.Updates, u)
				takes.Updates = append([]api.Update{gone(u.Prefix, u.Source)}, takes.Updates...)
			}
		}
		if len(brings.Updates) > 0 {
			count++
			sameRib(t, "there and back", must(t, must(t, was, brings), takes), was)
		}
	}
	if count < 1000 {
		t.Errorf("only %d of them", count)
	}
}

// R3: what is handed in is not changed and not kept, the room behind its end neither.
func TestCallsAnswerNewMemory(t *testing.T) {
	var d dice
	for range 300 {
		m := d.model(d.roll(41))
		routes := slices.Concat(m.rib().Routes, []api.Route{cand(four(8, 77), 1, 7, 7), cand(four(8, 78), 1, 7, 7)})
		updates := slices.Concat(d.batch(m).Updates, puts(9, 3))
		r, b := rib(routes[:len(routes)-2]...), batch(updates[:len(updates)-3]...)
		before, says := slices.Clone(routes), slices.Clone(updates)
		got, _ := route.Apply(r, b)
		clear(got.Routes[:cap(got.Routes)])
		best, _ := route.Best(r)
		clear(best.Rows[:cap(best.Rows)])
		l := []api.Batch{b, b}
		got, _ = route.Fold(l)
		clear(got.Routes[:cap(got.Routes)])
		route.Check(r)
		route.CheckBatch(b)
		route.Encode(r)
		route.EncodeBatch(b)
		if !slices.Equal(routes, before) || !slices.Equal(updates, says) || !route.SameBatch(l[0], l[1]) {
			t.Fatalf("what was handed in is now %v, %v", routes, updates)
		}
	}
}

// A batch of one kind of update that changes nothing answers new memory, too.
func TestWhatStaysIsNewMemory(t *testing.T) {
	r := rib(wide(3, 2)...)
	got := must(t, r, batch(put(nth(1), 1, r.Routes[2].Pref, r.Routes[2].Hop)))
	sameRib(t, "Apply", got, r)
	clear(got.Routes)
	sameRib(t, "what was handed in", r, rib(wide(3, 2)...))
}

func TestChaptersExamples(t *testing.T) {
	p := pfx()
	r := must(t, api.Rib{}, batch(put(p, 2, 5, 7), put(p, 1, 5, 9)))
	hop := func(r api.Rib) int {
		best, _ := route.Best(r)
		h, _ := table.Get(best, p)
		return h
	}
	if len(r.Routes) != 2 || hop(r) != 9 {
		t.Errorf("two candidates: %v, %d", r, hop(r))
	}
	one := must(t, r, batch(gone(p, 1)))
	if hop(one) != 7 {
		t.Errorf("the other one: %v, %d", one, hop(one))
	}
	refused(t, one, batch(gone(p, 3)), api.ErrNone)
	refused(t, one, batch(put(p, 1, 0, 1), put(p, 1, 0, 2)), api.ErrBatch)
}
