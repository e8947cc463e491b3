package fib_test

import (
	"math"
	"reflect"
	"slices"
	"testing"

	"junctionbox/api"
	"junctionbox/arena"
	"junctionbox/fib"
	"junctionbox/trie"
)

// p, q, r and s are the rows that most tests go by: p contains q and r, s is of the other version.
func p() api.Row { return row(four(10), 8, 3) }
func q() api.Row { return row(four(10, 1), 16, 4) }
func r() api.Row { return row(four(10, 128), 9, 5) }
func s() api.Row { return row(six(0x20, 1), 16, 6) }

// another is the row with another hop.
func another(h api.Row, hop int) api.Row {
	h.Hop = hop
	return h
}

// The chapter's examples.

func TestExamples(t *testing.T) {
	a := made(t, 800)
	f := fibOf(t, a)
	is(t, "Begin", f.Begin(), api.OK)
	is(t, "Put(p, 3)", f.Put(p().Prefix, 3), api.OK)
	tells(t, a)
	is(t, "Publish(1, 1)", f.Publish(1, 1), api.OK)
	tells(t, a, p())

	is(t, "Put(q, 4)", f.Put(q().Prefix, 4), api.ErrClosed)
	is(t, "Begin", f.Begin(), api.OK)
	is(t, "Begin", f.Begin(), api.ErrOpen)
	is(t, "Put(q, 4)", f.Put(q().Prefix, 4), api.OK)
	is(t, "Abort", f.Abort(), api.OK)
	tells(t, a, p())

	does(t, "Begin; Drop(p); Put(p, 5)", f.Begin(), f.Drop(p().Prefix), f.Put(p().Prefix, 5))
	is(t, "Publish(1, 3)", f.Publish(1, 3), api.ErrVersion)
	is(t, "Publish(0, 2)", f.Publish(0, 2), api.OK)
	is(t, "Publish(1, 3)", f.Publish(1, 3), api.ErrClosed)
	tells(t, a, another(p(), 5))
}

// P10.1

// rightCells are arenas whose root cell leads to two tries.
func rightCells(t *testing.T) []*arena.Arena {
	t.Helper()
	var all []*arena.Arena
	for _, rows := range [][2][]api.Row{
		{}, {{p()}}, {nil, {s()}}, {{p(), q(), r()}, {s()}},
		{{row(four(), 0, 1)}, {row(six(), 0, 1)}},
		{{row(four(full(4)...), 32, 255)}, {row(six(full(16)...), 128, 255)}},
	} {
		a := made(t, 2000)
		block(t, a, 1, 7, 8) // which nobody reaches
		cell(t, a, insert(t, a, rows[0]...), insert(t, a, rows[1]...))
		all = append(all, a)
	}
	return all
}

// laid is a trie of one prefix of four bits, block by block.
type laid struct {
	root, children, node, results int
}

// lay lays one of these, with a part of another one, if its place is not 0.
func lay(t *testing.T, a *arena.Arena, with laid) laid {
	t.Helper()
	if with.results == 0 {
		with.results = block(t, a, 0, 9)
	}
	if with.node == 0 {
		with.node = block(t, a, 2, 1, uint32(with.results), 0, 0)
	}
	if with.children == 0 {
		with.children = block(t, a, 0, uint32(with.node))
	}
	if with.root == 0 {
		with.root = block(t, a, 2, 1<<16, 0, uint32(with.children), 0)
	}
	return with
}

// wrongCells are arenas whose root cell leads to something else, by what is wrong.
func wrongCells(t *testing.T) map[string]*arena.Arena {
	t.Helper()
	all := map[string]*arena.Arena{}
	add := func(what string, roots func(a *arena.Arena) (int, int)) {
		a := made(t, 2000)
		four, six := roots(a)
		cell(t, a, four, six)
		all[what] = a
	}
	for what, block := range map[string]func(a *arena.Arena) int{
		"no node's class":         func(a *arena.Arena) int { return block(t, a, 0, 1) },
		"a node without a prefix": func(a *arena.Arena) int { return block(t, a, 2) },
		"a word behind the node":  func(a *arena.Arena) int { return block(t, a, 2, 1, uint32(block(t, a, 0, 9)), 0, 1) },
		"a hop of 0":              func(a *arena.Arena) int { return block(t, a, 2, 1, uint32(block(t, a, 0, 0)), 0, 0) },
		"a hop of 256":            func(a *arena.Arena) int { return block(t, a, 2, 1, uint32(block(t, a, 0, 256)), 0, 0) },
		"results that are not":    func(a *arena.Arena) int { return block(t, a, 2, 1, 1999, 0, 0) },
		"a child that is not":     func(a *arena.Arena) int { return lay(t, a, laid{node: 1999}).root },
		"one block of one trie": func(a *arena.Arena) int {
			n := lay(t, a, laid{})
			return block(t, a, 2, 3<<16, 0, uint32(block(t, a, 1, uint32(n.node), uint32(n.node))), 0)
		},
		"a node as its own child's": func(a *arena.Arena) int {
			n := lay(t, a, laid{})
			a.Store(n.children, 0, uint32(n.root))
			return n.root
		},
	} {
		add(what+" of version 4", func(a *arena.Arena) (int, int) { return block(a), insert(t, a, s()) })
		add(what+" of version 6", func(a *arena.Arena) (int, int) { return insert(t, a, p()), block(a) })
		add(what+" of version 4 alone", func(a *arena.Arena) (int, int) { return block(a), 0 })
		add(what+" of version 6 alone", func(a *arena.Arena) (int, int) { return 0, block(a) })
	}
	add("a trie of the other version", func(a *arena.Arena) (int, int) { return insert(t, a, row(six(0x20, 1), 40, 1)), 0 })
	add("one root of both", func(a *arena.Arena) (int, int) { n := insert(t, a, row(four(), 0, 1)); return n, n })
	for what, cut := range map[string]func(n laid) laid{
		"one root":  func(n laid) laid { return n },
		"one list":  func(n laid) laid { return laid{children: n.children} },
		"one child": func(n laid) laid { return laid{node: n.node} },
		"one hop":   func(n laid) laid { return laid{results: n.results} },
	} {
		add(what+" of both, laid", func(a *arena.Arena) (int, int) { n := lay(t, a, laid{}); return n.root, lay(t, a, cut(n)).root })
		add(what+" of both, laid the other way round", func(a *arena.Arena) (int, int) { n := lay(t, a, laid{}); return lay(t, a, cut(n)).root, n.root })
	}
	return all
}

func TestNew(t *testing.T) {
	for _, a := range rightCells(t) {
		was := a.Encode()
		f, err := fib.New(a)
		if f == nil || err != api.OK || f.Open() || f.Waits() != nil {
			t.Fatalf("New: %v, %d", f, err)
		}
		cell := a.Root()
		leads(t, f, cell.Four, cell.Six)
		if !slices.Equal(a.Encode(), was) {
			t.Error("New has changed the arena")
		}
	}
}

func TestNewOfAWrongArena(t *testing.T) {
	if f, err := fib.New(nil); f != nil || err != api.ErrNil {
		t.Errorf("New of nothing: %v, %d", f, err)
	}
	for what, a := range wrongCells(t) {
		was := a.Encode()
		if f, err := fib.New(a); f != nil || err != api.ErrTrie {
			t.Errorf("New of %s: %v, %d", what, f, err)
		}
		if !slices.Equal(a.Encode(), was) {
			t.Errorf("New of %s has changed the arena", what)
		}
	}
}

func TestTwoTriesThatAreAlikeAreRight(t *testing.T) {
	a := made(t, 800)
	cell(t, a, lay(t, a, laid{}).root, lay(t, a, laid{}).root)
	fibOf(t, a)
	tells(t, a, row(four(), 4, 9), row(six(), 4, 9))
}

func TestTheArenaIsNotCopied(t *testing.T) {
	a := made(t, 800)
	f := fibOf(t, a)
	does(t, "Raise", a.Raise(3))
	does(t, "Begin", f.Begin())
	is(t, "Publish below the fence that was raised", f.Publish(2, 1), api.ErrFence)
	is(t, "Publish", f.Publish(3, 1), api.OK)
	if got := a.Root(); got != (api.Root{Version: 1, Epoch: 3}) {
		t.Errorf("the root cell is %v", got)
	}
}

func TestAFibHandsOnNoOtherCalls(t *testing.T) {
	var names []string
	for m := range reflect.TypeFor[*fib.Fib]().Methods() {
		names = append(names, m.Name)
	}
	if want := []string{"Abort", "Begin", "Drop", "Open", "Publish", "Put", "Roots", "Waits"}; !slices.Equal(names, want) {
		t.Errorf("the methods are %v", names)
	}
	for i := range reflect.TypeFor[fib.Fib]().NumField() {
		if field := reflect.TypeFor[fib.Fib]().Field(i); field.IsExported() {
			t.Errorf("%s can be reached", field.Name)
		}
	}
}

// P10.2

func TestBegin(t *testing.T) {
	a := made(t, 800)
	f := fibOf(t, a)
	was := a.Encode()
	is(t, "Begin", f.Begin(), api.OK)
	is(t, "Begin", f.Begin(), api.ErrOpen)
	if !slices.Equal(a.Encode(), was) || !f.Open() {
		t.Error("Begin has changed the arena, or opened nothing")
	}
	put(t, f, p())
	stay(t, a, f, api.ErrOpen, "a second Begin", f.Begin)
	does(t, "Publish, Begin, Abort, Begin", f.Publish(0, 1), f.Begin(), f.Abort(), f.Begin())
	is(t, "Begin", f.Begin(), api.ErrOpen)
}

// stay fails a test, if a call is not refused so, or changes something.
func stay(t *testing.T, a *arena.Arena, f *fib.Fib, want api.Errno, what string, do func() api.Errno) {
	t.Helper()
	stays(t, a, f, what, func() {
		t.Helper()
		is(t, what, do(), want)
	})
}

// closed asks everything of a fib without an open batch.
func closed(t *testing.T, a *arena.Arena, f *fib.Fib) {
	t.Helper()
	next := a.Root().Version + 1
	for what, do := range map[string]func() api.Errno{
		"Put":               func() api.Errno { return f.Put(p().Prefix, 3) },
		"Put of no hop":     func() api.Errno { return f.Put(p().Prefix, 0) },
		"Put of no prefix":  func() api.Errno { return f.Put(pre(four(10), 33), 3) },
		"Put of nothing":    func() api.Errno { return f.Put(api.Prefix{}, 0) },
		"Drop":              func() api.Errno { return f.Drop(p().Prefix) },
		"Drop of no prefix": func() api.Errno { return f.Drop(pre(four(10), 33)) },
		"Drop of nothing":   func() api.Errno { return f.Drop(api.Prefix{}) },
		"Publish":           func() api.Errno { return f.Publish(a.Fence(), next) },
		"Publish of 0, 0":   func() api.Errno { return f.Publish(0, 0) },
		"Abort":             f.Abort,
	} {
		stay(t, a, f, api.ErrClosed, what+" when none is open", do)
	}
}

func TestNoneIsOpen(t *testing.T) {
	a := made(t, 800)
	does(t, "Raise", a.Raise(1))
	f := fibOf(t, a)
	closed(t, a, f)
	published(t, a, f, p(), s())
	closed(t, a, f)
	published(t, a, f, q(), r())
	closed(t, a, f)
	does(t, "Begin, Abort", f.Begin(), f.Abort())
	closed(t, a, f)
}

func TestPutAndDropAreInsertAndDelete(t *testing.T) {
	a := made(t, 2000)
	f := begun(t, a)
	roots := [2]int{}
	for _, h := range []api.Row{p(), q(), r(), s(), another(p(), 255), row(six(), 0, 1), row(six(full(16)...), 128, 1), row(four(), 0, 2)} {
		put(t, f, h)
		one, two := f.Roots()
		if (one == roots[0]) == (h.Prefix.Addr.Version == 4) || (two == roots[1]) == (h.Prefix.Addr.Version == 6) {
			t.Fatalf("Put of %v: the roots are %d, %d, and were %v", h, one, two, roots)
		}
		roots = [2]int{one, two}
		if got := rowOf(t, a, f, h.Prefix); got != h {
			t.Fatalf("Put of %v: %v", h, got)
		}
	}
	for _, h := range []api.Row{q(), s(), p()} {
		does(t, "Drop", f.Drop(h.Prefix))
		if got := rowOf(t, a, f, h.Prefix); got.Prefix == h.Prefix {
			t.Fatalf("Drop of %v: %v", h, got)
		}
		is(t, "Drop of what was dropped", f.Drop(h.Prefix), api.ErrNone)
	}
	one, two := f.Roots()
	if want := reach(t, a, one, two); !slices.Equal(taken(a), want) {
		t.Errorf("taken are %v, not %v", taken(a), want)
	}
}

// rowOf is the row of a prefix in the tries that an open batch has come to.
func rowOf(t *testing.T, a *arena.Arena, f *fib.Fib, of api.Prefix) api.Row {
	t.Helper()
	one, two := f.Roots()
	for i, root := range []int{one, two} {
		rows, err := trie.Walk(a, root, 4+2*i)
		does(t, "Walk", err)
		for _, h := range rows {
			if h.Prefix == of {
				return h
			}
		}
	}
	return api.Row{}
}

func TestPutOfWhatIsThere(t *testing.T) {
	a := made(t, 800)
	f := fibOf(t, a)
	published(t, a, f, p(), q(), s())
	does(t, "Begin", f.Begin())
	for _, h := range []api.Row{p(), q(), s()} {
		stay(t, a, f, api.OK, "Put of what is there", func() api.Errno { return f.Put(h.Prefix, h.Hop) })
	}
}

func TestPutOfWrongArguments(t *testing.T) {
	a := made(t, 800)
	f := fibOf(t, a)
	published(t, a, f, p(), s())
	does(t, "Begin", f.Begin())
	put(t, f, q())
	for _, hop := range append(wrongHops(), 1, 255) {
		for _, of := range wrongPrefixes() {
			stay(t, a, f, api.ErrPrefix, "Put of no prefix", func() api.Errno { return f.Put(of, hop) })
		}
	}
	for _, hop := range wrongHops() {
		for _, h := range []api.Row{p(), q(), r(), s()} {
			stay(t, a, f, api.ErrArg, "Put of no hop", func() api.Errno { return f.Put(h.Prefix, hop) })
		}
	}
	put(t, f, another(p(), 1), another(s(), 255))
}

func TestDropOfWrongArguments(t *testing.T) {
	a := made(t, 800)
	f := fibOf(t, a)
	published(t, a, f, p(), s())
	does(t, "Begin", f.Begin())
	put(t, f, q())
	for _, of := range wrongPrefixes() {
		stay(t, a, f, api.ErrPrefix, "Drop of no prefix", func() api.Errno { return f.Drop(of) })
	}
	for _, of := range []api.Prefix{r().Prefix, pre(four(), 0), pre(four(10), 7), pre(four(10), 9), pre(four(10), 16), pre(six(), 0), pre(six(10), 8), pre(six(0x20, 1), 17), pre(four(0x20, 1), 16)} {
		stay(t, a, f, api.ErrNone, "Drop of what is not there", func() api.Errno { return f.Drop(of) })
	}
	does(t, "Drop", f.Drop(q().Prefix), f.Drop(p().Prefix), f.Drop(s().Prefix))
	leads(t, f, 0, 0)
}

func TestPutAndDropInWhatIsNoTrie(t *testing.T) {
	for _, version := range []int{4, 6} {
		a := made(t, 800)
		f := fibOf(t, a)
		published(t, a, f, p(), s())
		does(t, "Begin", f.Begin())
		put(t, f, q())
		one, two := f.Roots()
		broken, other := one, s()
		in := p()
		if version == 6 {
			broken, in, other = two, s(), p()
		}
		does(t, "Store", a.Store(broken, 3, 1))
		stay(t, a, f, api.ErrTrie, "Put in what is no trie", func() api.Errno { return f.Put(in.Prefix, 9) })
		stay(t, a, f, api.ErrTrie, "Put of what is there", func() api.Errno { return f.Put(in.Prefix, in.Hop) })
		stay(t, a, f, api.ErrTrie, "Drop", func() api.Errno { return f.Drop(in.Prefix) })
		stay(t, a, f, api.ErrArg, "Put of no hop", func() api.Errno { return f.Put(in.Prefix, 0) })
		is(t, "Put in the other one", f.Put(other.Prefix, 9), api.OK)
		does(t, "Store", a.Store(broken, 3, 0))
		is(t, "Put in what is a trie again", f.Put(in.Prefix, 9), api.OK)
	}
}

func TestPutWithoutRoom(t *testing.T) {
	a := made(t, 64)
	f := fibOf(t, a)
	published(t, a, f, row(four(), 0, 1))
	does(t, "Begin", f.Begin())
	put(t, f, row(four(), 1, 2))
	was, waiting := taken(a), f.Waits()
	one, two := f.Roots()
	for _, h := range []api.Row{row(four(1, 2, 3, 4), 32, 1), row(six(1, 2, 3, 4), 64, 1)} {
		is(t, "Put without room", f.Put(h.Prefix, h.Hop), api.ErrFull)
		leads(t, f, one, two)
		waits(t, f, waiting...)
		if !f.Open() || !slices.Equal(taken(a), was) {
			t.Errorf("taken are %v, not %v; open: %t", taken(a), was, f.Open())
		}
	}
	put(t, f, row(four(128), 1, 3))
	does(t, "Publish", f.Publish(0, 2))
	tells(t, a, row(four(), 0, 1), row(four(), 1, 2), row(four(128), 1, 3))
}

func TestWhatABatchHasTakenIsGivenBackAtOnce(t *testing.T) {
	a := made(t, 800)
	f := fibOf(t, a)
	published(t, a, f, p())
	old := taken(a)
	does(t, "Begin", f.Begin())
	put(t, f, q())
	own := less(taken(a), old)
	put(t, f, another(q(), 9))
	if got, gone := less(taken(a), old), less(own, taken(a)); len(got) != len(own) || len(gone) == 0 {
		t.Errorf("the batch has taken %v, then %v", own, got)
	}
	for hop := range 200 {
		put(t, f, another(q(), 1+hop), another(p(), 1+hop), another(r(), 1+hop))
		one, two := f.Roots()
		want := reach(t, a, one, two)
		if got := less(taken(a), old); !slices.Equal(got, less(want, old)) {
			t.Fatalf("the batch has taken %v, not %v", got, less(want, old))
		}
	}
	does(t, "Publish", f.Publish(0, 2))
	if got := slices.Sorted(slices.Values(f.Waits())); !slices.Equal(got, old) {
		t.Errorf("waiting are %v, not %v", got, old)
	}
}

// P10.3

func TestPublish(t *testing.T) {
	a := made(t, 800)
	f := begun(t, a)
	put(t, f, p(), s())
	one, two := f.Roots()
	is(t, "Publish", f.Publish(math.MaxUint64, 1), api.OK)
	if got := a.Root(); got != (api.Root{Version: 1, Epoch: math.MaxUint64, Four: one, Six: two}) {
		t.Errorf("the root cell is %v", got)
	}
	tells(t, a, p(), s())
	leads(t, f, one, two)
	waits(t, f)
	if f.Open() {
		t.Error("the batch is not over")
	}
}

func TestPublishIsRefused(t *testing.T) {
	a := made(t, 800)
	f := fibOf(t, a)
	published(t, a, f, p())
	published(t, a, f, q(), s())
	does(t, "Raise", a.Raise(5))
	does(t, "Begin", f.Begin())
	put(t, f, r())
	for _, epoch := range []uint64{0, 1, 4} {
		for _, version := range []uint64{0, 1, 2, 3, 4, math.MaxUint64} {
			stay(t, a, f, api.ErrFence, "Publish below the fence", func() api.Errno { return f.Publish(epoch, version) })
		}
	}
	for _, epoch := range []uint64{5, 6, math.MaxUint64} {
		for _, version := range []uint64{0, 1, 2, 4, 5, 1<<32 + 3, math.MaxUint64} {
			stay(t, a, f, api.ErrVersion, "Publish of another version", func() api.Errno { return f.Publish(epoch, version) })
		}
	}
	tells(t, a, p(), q(), s())
	put(t, f, another(p(), 7))
	is(t, "Publish", f.Publish(5, 3), api.OK)
	tells(t, a, another(p(), 7), q(), r(), s())
}

// A root that somebody has given back, though nobody may, is no root any more.
func TestPublishOfARootThatIsGone(t *testing.T) {
	for _, version := range []int{4, 6} {
		a := made(t, 800)
		f := fibOf(t, a)
		published(t, a, f, row(four(), 0, 1), row(six(), 0, 1))
		does(t, "Begin", f.Begin())
		put(t, f, row(four(), 0, 2), row(six(), 0, 2))
		one, two := f.Roots()
		does(t, "Free", a.Free(map[int]int{4: one, 6: two}[version]))
		stay(t, a, f, api.ErrNone, "Publish", func() api.Errno { return f.Publish(0, 2) })
		stay(t, a, f, api.ErrVersion, "Publish", func() api.Errno { return f.Publish(0, 1) })
		tells(t, a, row(four(), 0, 1), row(six(), 0, 1))
	}
}

func TestPublishAtTheGreatestVersion(t *testing.T) {
	b := made(t, 800).Encode()
	for i := range 8 {
		b[4+i] = 255
	}
	a, err := arena.Decode(b)
	does(t, "Decode", err)
	f := begun(t, a)
	put(t, f, p())
	for _, version := range []uint64{0, 1, math.MaxUint64, math.MaxUint64 - 1} {
		stay(t, a, f, api.ErrVersion, "Publish behind the greatest version", func() api.Errno { return f.Publish(1, version) })
	}
	does(t, "Abort", f.Abort())
}

func TestWhatIsRetiredWaitsForOneVersion(t *testing.T) {
	a := made(t, 2000)
	f := fibOf(t, a)
	published(t, a, f, p(), s())
	first := taken(a)
	waits(t, f)

	// What Insert retires is what waits, as it stands there.
	_, want, err := trie.Insert(copied(t, a), a.Root().Four, q())
	does(t, "Insert", err)
	_, more, err := trie.Insert(copied(t, a), a.Root().Six, another(s(), 9))
	does(t, "Insert", err)
	does(t, "Begin", f.Begin())
	put(t, f, q(), another(s(), 9))
	waits(t, f)
	does(t, "Publish", f.Publish(0, 2))
	waits(t, f, slices.Concat(want, more)...)
	if got := less(first, taken(a)); len(got) != 0 {
		t.Errorf("%v was given back at once", got)
	}

	// They wait on while the next batch is open, and are given back when it is published.
	waiting := f.Waits()
	does(t, "Begin", f.Begin())
	put(t, f, r())
	waits(t, f, waiting...)
	is(t, "Publish", f.Publish(0, 2), api.ErrVersion)
	if got := less(waiting, taken(a)); len(got) != 0 {
		t.Errorf("%v was given back before", got)
	}
	does(t, "Publish", f.Publish(0, 3))
	if got := less(waiting, spare(a)); len(got) != 0 {
		t.Errorf("%v was not given back", got)
	}
	if got := less(f.Waits(), waiting); len(got) != len(f.Waits()) || len(got) == 0 {
		t.Errorf("waiting are %v, and were %v", f.Waits(), waiting)
	}
}

func TestABatchWithoutAChange(t *testing.T) {
	a := made(t, 800)
	f := fibOf(t, a)
	published(t, a, f, p(), s())
	published(t, a, f, q())
	waiting := f.Waits()
	was := a.Root()
	published(t, a, f)
	if got := a.Root(); got != (api.Root{Version: 3, Epoch: was.Epoch, Four: was.Four, Six: was.Six}) {
		t.Errorf("the root cell is %v, and was %v", got, was)
	}
	waits(t, f)
	if got := less(waiting, spare(a)); len(waiting) == 0 || len(got) != 0 {
		t.Errorf("%v was not given back", got)
	}
	tells(t, a, p(), q(), s())
}

// What is given back in order is taken in the other order: the last one of a class comes first.
func TestTheOrderOfWhatIsGivenBack(t *testing.T) {
	for _, c := range []struct {
		what string
		do   func(f *fib.Fib) (api.Errno, []int)
	}{
		{"Publish", func(f *fib.Fib) (api.Errno, []int) { waiting := f.Waits(); return f.Publish(0, 3), waiting }},
		{"Abort", func(f *fib.Fib) (api.Errno, []int) { return f.Abort(), nil }},
	} {
		a := made(t, 2000)
		f := fibOf(t, a)
		published(t, a, f, p(), s())
		published(t, a, f, q(), r(), another(s(), 9))
		before := taken(a)
		does(t, "Begin", f.Begin())
		put(t, f, row(four(77), 8, 1), row(six(77), 8, 1), another(q(), 200))
		own := less(taken(a), before) // which rise
		err, order := c.do(f)
		is(t, c.what, err, api.OK)
		if order == nil {
			order = own
		}
		classes := map[int]int{}
		for _, piece := range a.Spare() {
			classes[piece.Place] = piece.Class
		}
		if len(order) < 8 {
			t.Fatalf("%s: only %v are given back", c.what, order)
		}
		for _, place := range slices.Backward(order) {
			class, free := classes[place]
			got, err := a.Alloc(class)
			if !free || got != place || err != api.OK {
				t.Errorf("%s: the block %d is taken ahead of %d (%t)", c.what, got, place, free)
			}
		}
	}
}

func TestAbort(t *testing.T) {
	a := made(t, 2000)
	f := fibOf(t, a)
	published(t, a, f, p(), s())
	published(t, a, f, q())
	was, waiting, cell := taken(a), f.Waits(), a.Root()
	does(t, "Begin", f.Begin())
	put(t, f, r(), another(s(), 9), another(r(), 8))
	does(t, "Drop", f.Drop(p().Prefix))
	is(t, "Abort", f.Abort(), api.OK)
	if !slices.Equal(taken(a), was) || a.Root() != cell || f.Open() {
		t.Errorf("taken are %v, not %v; the root cell %v, not %v; open: %t", taken(a), was, a.Root(), cell, f.Open())
	}
	waits(t, f, waiting...)
	leads(t, f, cell.Four, cell.Six)
	tells(t, a, p(), q(), s())

	// The next batch begins at the root cell, and what the one that was aborted had retired does not wait.
	published(t, a, f)
	waits(t, f)
	tells(t, a, p(), q(), s())
}

func TestAbortOfWhatHasComeToNothing(t *testing.T) {
	a := made(t, 800)
	f := fibOf(t, a)
	published(t, a, f, p(), s())
	was := a.Encode()
	does(t, "Begin, Abort", f.Begin(), f.Abort())
	if !slices.Equal(a.Encode(), was) {
		t.Error("a batch without a change has changed the arena")
	}
	does(t, "Begin, Drop, Drop, Abort", f.Begin(), f.Drop(p().Prefix), f.Drop(s().Prefix), f.Abort())
	tells(t, a, p(), s())
}

// P10.4

func TestTold(t *testing.T) {
	a := made(t, 800)
	f := fibOf(t, a)
	leads(t, f, 0, 0)
	published(t, a, f, p(), s())
	cell := a.Root()
	leads(t, f, cell.Four, cell.Six)
	does(t, "Begin", f.Begin())
	leads(t, f, cell.Four, cell.Six)
	put(t, f, q())
	if one, two := f.Roots(); one == cell.Four || two != cell.Six || trie.Check(a, one, 4) != api.OK {
		t.Errorf("Roots: %d, %d; of the root cell: %v", one, two, cell)
	}
	does(t, "Drop", f.Drop(s().Prefix))
	if one, two := f.Roots(); one == cell.Four || two != 0 {
		t.Errorf("Roots: %d, %d; of the root cell: %v", one, two, cell)
	}
	if !f.Open() || a.Root() != cell {
		t.Errorf("Open: %t; the root cell is %v, and was %v", f.Open(), a.Root(), cell)
	}
	does(t, "Abort", f.Abort())
	leads(t, f, cell.Four, cell.Six)
	if f.Open() {
		t.Error("a batch is open that was aborted")
	}
}

func TestWaitsIsNewMemory(t *testing.T) {
	a := made(t, 800)
	f := fibOf(t, a)
	published(t, a, f, p())
	published(t, a, f, q())
	want := f.Waits()
	got := f.Waits()
	for i := range got {
		got[i] = 17
	}
	_ = append(got[:0], make([]int, cap(got))...)
	waits(t, f, want...)
	published(t, a, f, r())
	if got := less(want, spare(a)); len(want) == 0 || len(got) != 0 {
		t.Errorf("%v was not given back", got)
	}
}

func TestNil(t *testing.T) {
	var f *fib.Fib
	for what, err := range map[string]api.Errno{
		"Begin":           f.Begin(),
		"Put":             f.Put(p().Prefix, 3),
		"Put of nothing":  f.Put(api.Prefix{}, 0),
		"Drop":            f.Drop(p().Prefix),
		"Drop of nothing": f.Drop(api.Prefix{}),
		"Publish":         f.Publish(1, 1),
		"Publish of 0, 0": f.Publish(0, 0),
		"Abort":           f.Abort(),
	} {
		is(t, what+" of nil", err, api.ErrNil)
	}
	if f.Open() || f.Waits() != nil {
		t.Errorf("Open, Waits of nil: %t, %v", f.Open(), f.Waits())
	}
	leads(t, f, 0, 0)
}

// P10.5

func TestRows(t *testing.T) {
	a := made(t, 2000)
	list := []api.Row{
		row(four(), 0, 1), p(), row(four(10), 9, 9), q(), r(), row(four(255), 8, 2), row(four(full(4)...), 32, 3),
		row(six(), 0, 4), row(six(10), 8, 5), s(), row(six(full(16)...), 128, 255),
	}
	f := fibOf(t, a)
	backwards := slices.Clone(list)
	slices.Reverse(backwards)
	published(t, a, f, backwards...)
	tells(t, a, list...)
	rows, _ := fib.Rows(a)
	clear(rows)
	tells(t, a, list...)
}

func TestRowsOfRightArenas(t *testing.T) {
	for _, a := range rightCells(t) {
		cell := a.Root()
		one, _ := trie.Walk(a, cell.Four, 4)
		two, _ := trie.Walk(a, cell.Six, 6)
		tells(t, a, slices.Concat(one, two)...)
	}
}

func TestRowsOfWrongArenas(t *testing.T) {
	if rows, err := fib.Rows(nil); rows != nil || err != api.ErrNil {
		t.Errorf("Rows of nothing: %v, %d", rows, err)
	}
	for what, a := range wrongCells(t) {
		if rows, err := fib.Rows(a); rows != nil || err != api.ErrTrie {
			t.Errorf("Rows of %s: %v, %d", what, rows, err)
		}
	}
}

func TestSeek(t *testing.T) {
	a := made(t, 2000)
	f := fibOf(t, a)
	seek := func(x api.Addr, root int, version uint64) {
		t.Helper()
		got, v, err := fib.Seek(a, x)
		if want := (api.Seek{Addr: x, Place: root, Over: root == 0}); got != want || v != version || err != api.OK {
			t.Errorf("Seek(%v): %v, %d, %d, not %v, %d", x, got, v, err, want, version)
		}
	}
	all := func(version uint64) {
		t.Helper()
		for _, x := range []api.Addr{four(), four(10, 1, 2, 3), four(full(4)...)} {
			seek(x, a.Root().Four, version)
		}
		for _, x := range []api.Addr{six(), six(10, 1, 2, 3), six(full(16)...)} {
			seek(x, a.Root().Six, version)
		}
	}
	all(0)
	published(t, a, f, p())
	all(1)
	does(t, "Begin", f.Begin())
	put(t, f, s(), q())
	all(1)
	does(t, "Publish", f.Publish(0, 2))
	all(2)
	published(t, a, f, r())
	does(t, "Begin, Drop, Drop, Drop, Publish", f.Begin(), f.Drop(p().Prefix), f.Drop(q().Prefix), f.Drop(r().Prefix), f.Publish(0, 4))
	all(4)
	for _, a := range wrongCells(t) { // of the tries nothing is asked
		s, version, err := fib.Seek(a, four(10))
		if want := a.Root(); s.Place != want.Four || version != want.Version || err != api.OK {
			t.Errorf("Seek: %v, %d, %d", s, version, err)
		}
	}
}

func TestSeekOfWrongArguments(t *testing.T) {
	a := made(t, 800)
	published(t, a, fibOf(t, a), p(), s())
	for _, x := range append(wrongAddrs(), four(10), six(10)) {
		if got, version, err := fib.Seek(nil, x); got != (api.Seek{}) || version != 0 || err != api.ErrNil {
			t.Errorf("Seek of nothing: %v, %d, %d", got, version, err)
		}
	}
	for _, x := range wrongAddrs() {
		if got, version, err := fib.Seek(a, x); got != (api.Seek{}) || version != 0 || err != api.ErrAddr {
			t.Errorf("Seek(%v): %v, %d, %d", x, got, version, err)
		}
	}
}
