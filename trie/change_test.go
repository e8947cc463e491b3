package trie_test

import (
	"bytes"
	"fmt"
	"maps"
	"math"
	"slices"
	"testing"

	"junctionbox/api"
	"junctionbox/arena"
	"junctionbox/trie"
)

// P8.3

// branch is a node of a trie as the chapter changes one: by hand, from the texts of its prefixes and children, in an arena of its own.
type branch struct {
	place, results, children int
	hops                     map[string]int
	kids                     map[string]*branch
}

// hand is whoever changes a trie so: it notes what it takes and what it retires, in order, and fails at the first block that it can't have.
type hand struct {
	a              *arena.Arena
	taken, retired []int
	full           bool
}

func (h *hand) take(words ...uint32) int {
	if h.full || len(words) == 0 {
		return 0
	}
	place, err := h.a.Alloc(classFor(len(words)))
	if err != api.OK {
		h.full = true
		return 0
	}
	for i, x := range words {
		h.a.Store(place, i, x)
	}
	h.taken = append(h.taken, place)
	return place
}

func (h *hand) retire(place int) {
	if place != 0 {
		h.retired = append(h.retired, place)
	}
}

// change is the branch with that hop of what the rest of a prefix spells; nil, if nothing is left of it. A hop of 0 is none.
func (h *hand) change(b *branch, rest string, hop int) *branch {
	if b == nil {
		b = &branch{}
	}
	n := &branch{results: b.results, children: b.children, hops: maps.Clone(b.hops), kids: maps.Clone(b.kids)}
	if n.hops == nil {
		n.hops = map[string]int{}
	}
	if n.kids == nil {
		n.kids = map[string]*branch{}
	}
	if len(rest) < 4 {
		h.retire(b.results)
		n.hops[rest] = hop
		if hop == 0 {
			delete(n.hops, rest)
		}
		n.results = h.take(n.hopWords()...)
	} else {
		kid := h.change(b.kids[rest[:4]], rest[4:], hop)
		h.retire(b.children)
		n.kids[rest[:4]] = kid
		if kid == nil {
			delete(n.kids, rest[:4])
		}
		n.children = h.take(n.kidWords()...)
	}
	h.retire(b.place)
	if len(n.hops)+len(n.kids) == 0 {
		return nil
	}
	n.place = h.take(n.sets(), uint32(n.results), uint32(n.children))
	return n
}

func (b *branch) hopWords() []uint32 {
	var words []uint32
	for _, text := range texts() {
		if hop, ok := b.hops[text]; ok {
			words = append(words, uint32(hop))
		}
	}
	return words
}

func (b *branch) kidWords() []uint32 {
	var words []uint32
	for _, text := range nibbles() {
		if kid, ok := b.kids[text]; ok {
			words = append(words, uint32(kid.place))
		}
	}
	return words
}

func (b *branch) sets() uint32 {
	set := uint32(0)
	for text := range b.hops {
		set += 1 << slices.Index(texts(), text)
	}
	for text := range b.kids {
		set += 1 << (16 + slices.Index(nibbles(), text))
	}
	return set
}

func (b *branch) root() int {
	if b == nil {
		return 0
	}
	return b.place
}

// pair is a trie, and the same one by hand in an arena of its own.
type pair struct {
	t       *testing.T
	version int
	a, twin *arena.Arena
	root    int
	hand    *branch
	m       table
}

func newPair(t *testing.T, n, version int) *pair {
	t.Helper()
	return &pair{t: t, version: version, a: made(t, n), twin: made(t, n), m: table{}}
}

// set does one change to both: an Insert, or of a hop of 0 a Delete. It holds what is answered, and each word, against what the hand has done. What is retired stays, unless it is to be given back.
func (p *pair) set(q api.Prefix, hop int, give bool) api.Errno {
	p.t.Helper()
	root, retired, err := p.ask(q, hop)
	was, there := p.m[begun(q)]
	switch {
	case hop == 0 && !there:
		p.answers(root, retired, err, 0, nil, api.ErrNone)
		return err
	case hop != 0 && was == hop:
		p.answers(root, retired, err, p.root, nil, api.OK)
		return err
	}
	h := hand{a: p.twin}
	next := h.change(p.hand, begun(q), hop)
	if h.full {
		slices.Reverse(h.taken)
		giveBack(p.t, p.twin, h.taken)
		p.answers(root, retired, err, 0, nil, api.ErrFull)
		return err
	}
	p.answers(root, retired, err, next.root(), h.retired, api.OK)
	p.parted(root, h.taken, retired)
	p.root, p.hand, p.m[begun(q)] = root, next, hop
	if hop == 0 {
		delete(p.m, begun(q))
	}
	if give {
		giveBack(p.t, p.a, retired)
		giveBack(p.t, p.twin, retired)
	}
	return err
}

func (p *pair) ask(q api.Prefix, hop int) (int, []int, api.Errno) {
	if hop == 0 {
		return trie.Delete(p.a, p.root, q)
	}
	return trie.Insert(p.a, p.root, api.Row{Prefix: q, Hop: hop})
}

func (p *pair) answers(root int, retired []int, err api.Errno, wantRoot int, want []int, wantErr api.Errno) {
	p.t.Helper()
	if root != wantRoot || !slices.Equal(retired, want) || err != wantErr {
		p.t.Fatalf("root %d, retired %v, %d; not %d, %v, %d", root, retired, err, wantRoot, want, wantErr)
	}
	if !bytes.Equal(p.a.Encode(), p.twin.Encode()) {
		p.t.Fatalf("the words are\n%v, not\n%v", wordsOf(p.a), wordsOf(p.twin))
	}
}

// parted fails a test, if what is retired and the blocks of the new trie are not all blocks of the old one and those that were taken, none in both.
func (p *pair) parted(root int, took, retired []int) {
	p.t.Helper()
	all := slices.Concat(reach(p.t, p.a, p.root, p.version), took)
	parts := slices.Concat(reach(p.t, p.a, root, p.version), retired)
	slices.Sort(all)
	slices.Sort(parts)
	if !slices.Equal(all, parts) {
		p.t.Fatalf("old and taken are %v; new and retired are %v", all, parts)
	}
	holds(p.t, p.a, p.root, p.version, p.m)
}

func TestExamples(t *testing.T) {
	a := made(t, 400)
	p, q := pre(four(10), 8), pre(four(10, 128), 9)
	first, retired, err := trie.Insert(a, 0, api.Row{Prefix: p, Hop: 3})
	var classes []int
	for _, b := range a.Blocks() {
		classes = append(classes, b.Class)
	}
	if !slices.Equal(classes, []int{0, 2, 0, 2, 0, 2}) || retired != nil || err != api.OK || first != taken(a)[5] {
		t.Errorf("Insert(p): %d, %v, %d; blocks of the classes %v", first, retired, err, classes)
	}
	looks(t, a, first, table{begun(p): 3}, four(10, 1, 2, 3))
	second, retired, err := trie.Insert(a, first, api.Row{Prefix: q, Hop: 4})
	slices.Sort(retired)
	if err != api.OK || !slices.Equal(retired, reach(t, a, first, 4)) || len(retired) != 6 {
		t.Errorf("Insert(q): %v, %d", retired, err)
	}
	if h, found, err := trie.Lookup(a, second, four(10, 200, 0, 1)); h != row(four(10, 128), 9, 4) || !found || err != api.OK {
		t.Errorf("Lookup of q: %v, %t, %d", h, found, err)
	}
	if h, found, err := trie.Lookup(a, second, four(11, 0, 0, 1)); h != (api.Row{}) || found || err != api.OK {
		t.Errorf("Lookup of neither: %v, %t, %d", h, found, err)
	}
	third, _, err := trie.Delete(a, second, p)
	is(t, "Delete(p)", err, api.OK)
	if h, found, err := trie.Lookup(a, third, four(10, 1, 2, 3)); h != (api.Row{}) || found || err != api.OK {
		t.Errorf("Lookup of what was deleted: %v, %t, %d", h, found, err)
	}
	_, _, err = trie.Delete(a, third, p)
	is(t, "Delete(p) again", err, api.ErrNone)
	_, _, err = trie.Insert(a, third, api.Row{Prefix: p})
	is(t, "Insert of Hop 0", err, api.ErrArg)
	is(t, "Check of version 5", trie.Check(a, third, 5), api.ErrArg)
	is(t, "Check at 17", trie.Check(a, 17, 4), api.ErrTrie)
}

// edges are prefixes at which something is at an edge: of no bits and of all, the last ones within a node, the first ones of the next one.
func edges(version int) []api.Prefix {
	var all []api.Prefix
	for _, x := range []api.Addr{addrOf(version), addrOf(version, full(widthOf(version)/8)...), addrOf(version, 10, 0x5a, 0xc3, 0x96)} {
		for _, bits := range []int{0, 1, 2, 3, 4, 5, 7, 8, 9, 12, widthOf(version) - 5, widthOf(version) - 4, widthOf(version) - 1, widthOf(version)} {
			all = append(all, fromBits(version, spelled(x)[:bits]))
		}
	}
	return all
}

// The first prefix of a trie, whichever it is, and the last one that is taken out of it.
func TestFirstAndLastPrefix(t *testing.T) {
	for _, version := range []int{4, 6} {
		for _, q := range edges(version) {
			p := newPair(t, 500, version)
			is(t, "Insert", p.set(q, 255, true), api.OK)
			if n := len(p.a.Blocks()); n != 2*(q.Bits/4+1) {
				t.Errorf("%v: %d blocks", q, n)
			}
			holds(t, p.a, p.root, version, table{begun(q): 255})
			is(t, "Insert of what is there", p.set(q, 255, true), api.OK)
			is(t, "Insert of another hop", p.set(q, 1, true), api.OK)
			is(t, "Delete", p.set(q, 0, true), api.OK)
			if p.root != 0 || len(p.a.Blocks()) != 0 {
				t.Errorf("%v: the root is %d, and %v are left", q, p.root, p.a.Blocks())
			}
			is(t, "Delete of what is not there", p.set(q, 0, true), api.ErrNone)
		}
	}
}

// All prefixes at edges in one trie, put there and taken out one by one, in several orders.
func TestEdgesTogether(t *testing.T) {
	d := dice(82)
	for _, version := range []int{4, 6} {
		for range 6 {
			p := newPair(t, 4000, version)
			for range 2 {
				list := edges(version)
				shuffle(&d, list)
				for _, q := range list {
					is(t, "Insert", p.set(q, 1+d.roll(255), true), api.OK)
					holds(t, p.a, p.root, version, p.m)
				}
			}
			list := edges(version)
			shuffle(&d, list)
			for _, q := range list {
				p.set(q, 0, true)
				holds(t, p.a, p.root, version, p.m)
			}
			if p.root != 0 || len(p.a.Blocks()) != 0 {
				t.Errorf("the root is %d, and %v are left", p.root, p.a.Blocks())
			}
		}
	}
}

func shuffle[E any](d *dice, list []E) {
	for i := range list {
		k := i + d.roll(len(list)-i)
		list[i], list[k] = list[k], list[i]
	}
}

// A node with one prefix up to all fifteen, and with one child up to all sixteen, and back again: each time the blocks of the least class.
func TestEachCountOfResultsAndChildren(t *testing.T) {
	d := dice(83)
	for _, path := range []string{"", "0101", "00001111"} {
		for _, names := range [][]string{texts(), nibbles(), slices.Concat(texts(), nibbles())} {
			p := newPair(t, 2000, 4)
			shuffle(&d, names)
			for i, name := range names {
				is(t, "Insert", p.set(fromBits(4, path+name), i+1, true), api.OK)
			}
			holds(t, p.a, p.root, 4, p.m)
			shuffle(&d, names)
			for _, name := range names {
				is(t, "Delete", p.set(fromBits(4, path+name), 0, true), api.OK)
			}
			if p.root != 0 {
				t.Errorf("the root is %d", p.root)
			}
		}
	}
}

// A node that loses its prefixes keeps its children, one that loses its children its prefixes; one that loses both goes, and so do those above it that have nothing else.
func TestWhatIsLeftOfNodes(t *testing.T) {
	p := newPair(t, 600, 4)
	one, two, three := pre(four(10), 8), pre(four(10, 16), 12), pre(four(10, 16, 16), 20)
	for i, q := range []api.Prefix{one, two, three} {
		is(t, "Insert", p.set(q, i+1, true), api.OK)
	}
	nodes := func(want int, results int) {
		t.Helper()
		at := 0
		for _, b := range p.a.Blocks() {
			if b.Class == 2 {
				at++
			}
		}
		if at != want || len(p.a.Blocks()) != 2*want-1+results {
			t.Errorf("%d nodes, %d blocks", at, len(p.a.Blocks()))
		}
	}
	nodes(6, 3)
	is(t, "Delete of the one between", p.set(two, 0, true), api.OK)
	nodes(6, 2)
	is(t, "Delete of the longest one", p.set(three, 0, true), api.OK)
	nodes(3, 1)
	is(t, "Insert of the longest one", p.set(three, 3, true), api.OK)
	is(t, "Delete of the shortest one", p.set(one, 0, true), api.OK)
	nodes(6, 1)
	is(t, "Delete of the last one", p.set(three, 0, true), api.OK)
	if p.root != 0 || len(p.a.Blocks()) != 0 {
		t.Errorf("the root is %d, and %v are left", p.root, p.a.Blocks())
	}
}

// Insert of what is there with that hop: the same root, nothing retired, no word changed, even where there is no room at all.
func TestInsertOfWhatIsThere(t *testing.T) {
	l := layOne(t)
	for {
		if _, err := l.a.Alloc(0); err != api.OK {
			break
		}
	}
	stays(t, l.a, "Insert of what is there", func() {
		for text, hop := range laidTable() {
			root, retired, err := trie.Insert(l.a, l.root, api.Row{Prefix: fromBits(4, text), Hop: hop})
			if root != l.root || retired != nil || err != api.OK {
				t.Errorf("Insert(%q, %d): %d, %v, %d", text, hop, root, retired, err)
			}
			root, retired, err = trie.Insert(l.a, l.root, api.Row{Prefix: fromBits(4, text), Hop: hop + 1})
			if root != 0 || retired != nil || err != api.ErrFull {
				t.Errorf("Insert(%q, %d): %d, %v, %d", text, hop+1, root, retired, err)
			}
		}
	})
}

// What is retired is not given back, and the old trie is what it was.
func TestWhatIsRetired(t *testing.T) {
	l := layOne(t)
	was := reach(t, l.a, l.root, 4)
	words := wordsOf(l.a)
	root, retired, err := trie.Insert(l.a, l.root, row(four(0xf0, 0, 0, 1), 32, 7))
	if err != api.OK || len(retired) != 2*9 || retired[0] != l.deepestResults || retired[1] != l.deepest || retired[3] != l.parent || retired[16] != l.children || retired[17] != l.root {
		t.Errorf("retired: %v, %d", retired, err)
	}
	for _, place := range retired {
		if _, there := l.a.Class(place); !there || !slices.Contains(was, place) {
			t.Errorf("%d is retired, and no block of the old trie any more", place)
		}
	}
	holds(t, l.a, l.root, 4, laidTable())
	m := laidTable()
	m["1111"+"0000000000000000000000000001"] = 7
	holds(t, l.a, root, 4, m)
	for i, x := range wordsOf(l.a)[16:len(words)] {
		if old := words[16+i]; old != 0 && x != old {
			t.Fatalf("the word %d was %d, and is %d", 16+i, old, x)
		}
	}
	retired[0] = 99999 // it is the caller's
	holds(t, l.a, l.root, 4, laidTable())
}

func TestWrongPrefixesAndHops(t *testing.T) {
	l := layOne(t)
	stays(t, l.a, "what is wrong", func() {
		for _, root := range []int{0, l.root, 1, -1} {
			for _, q := range wrongPrefixes() {
				for _, hop := range []int{0, 3, 256} {
					next, retired, err := trie.Insert(l.a, root, api.Row{Prefix: q, Hop: hop})
					if next != 0 || retired != nil || err != api.ErrPrefix {
						t.Errorf("Insert(%d, %v): %d, %v, %d", root, q, next, retired, err)
					}
				}
				next, retired, err := trie.Delete(l.a, root, q)
				if next != 0 || retired != nil || err != api.ErrPrefix {
					t.Errorf("Delete(%d, %v): %d, %v, %d", root, q, next, retired, err)
				}
			}
			for _, hop := range []int{0, -1, 256, 257, 512, 1<<32 + 1, math.MaxInt, math.MinInt} {
				next, retired, err := trie.Insert(l.a, root, row(four(10), 8, hop))
				if next != 0 || retired != nil || err != api.ErrArg {
					t.Errorf("Insert(%d, Hop %d): %d, %v, %d", root, hop, next, retired, err)
				}
			}
		}
	})
	for _, hop := range []int{1, 2, 254, 255} {
		root := insert(t, l.a, l.root, row(four(10), 8, hop))
		looks(t, l.a, root, table{begun(pre(four(10), 8)): hop}, four(10, 1, 2, 3))
		l.root = root
	}
}

func TestDeleteOfWhatIsNotThere(t *testing.T) {
	l := layOne(t)
	stays(t, l.a, "Delete of what is not there", func() {
		for _, root := range []int{0, l.root, l.one} {
			for _, q := range slices.Concat(edges(4), edges(6)) {
				if _, there := laidTable()[begun(q)]; there && root != 0 {
					continue
				}
				next, retired, err := trie.Delete(l.a, root, q)
				if next != 0 || retired != nil || err != api.ErrNone {
					t.Errorf("Delete(%d, %v): %d, %v, %d", root, q, next, retired, err)
				}
			}
		}
	})
}

// Both versions have prefixes of the same bits, each in a trie of its own.
func TestBothVersions(t *testing.T) {
	a := made(t, 1000)
	r4 := insert(t, a, 0, row(four(10), 8, 4))
	r6 := insert(t, a, 0, row(six(10), 8, 6))
	looks(t, a, r4, table{begun(pre(four(10), 8)): 4}, four(10, 1))
	looks(t, a, r6, table{begun(pre(six(10), 8)): 6}, six(10, 1))
	r4 = remove(t, a, r4, pre(four(10), 8))
	if r4 != 0 {
		t.Errorf("the root is %d", r4)
	}
	holds(t, a, r6, 6, table{begun(pre(six(10), 8)): 6})
}

// needs is the classes of the blocks that a change takes, in order.
func needs(t *testing.T, p *pair, q api.Prefix, hop int) []int {
	t.Helper()
	h := hand{a: copied(t, p.a)}
	h.change(p.hand, begun(q), hop)
	var classes []int
	for _, place := range h.taken {
		class, _ := h.a.Class(place)
		classes = append(classes, class)
	}
	return classes
}

// fill takes all that is left of an arena but blocks of these classes, which are free then, the first one of each class first.
func fill(t *testing.T, a *arena.Arena, classes []int) {
	t.Helper()
	var spare []int
	for _, class := range classes {
		spare = append(spare, block(t, a, class))
	}
	for class := range 6 {
		for {
			if _, err := a.Alloc(class); err != api.OK {
				break
			}
		}
	}
	slices.Reverse(spare)
	giveBack(t, a, spare)
}

// An arena that is full at each of the blocks that a change takes: nothing is told, and no word has changed, the order of the free lists neither.
func TestFullAtEachBlock(t *testing.T) {
	d := dice(84)
	for round := range 30 {
		p := newPair(t, 3000, 4+2*(round%2))
		for range round {
			p.set(d.prefix(p.version), 1+d.roll(255), true)
		}
		q, hop := d.prefix(p.version), 1+d.roll(255)
		if rows := p.m.rows(p.version); round%3 == 1 && len(rows) > 0 {
			q, hop = rows[d.roll(len(rows))].Prefix, 0
		} else if p.m[begun(q)] == hop {
			continue
		}
		classes := needs(t, p, q, hop)
		for k := range len(classes) + 1 {
			full := *p
			full.a, full.twin, full.m = copied(t, p.a), copied(t, p.twin), maps.Clone(p.m)
			fill(t, full.a, classes[:k])
			fill(t, full.twin, classes[:k])
			was, want := full.a.Encode(), api.ErrFull
			if k == len(classes) {
				want = api.OK
			}
			is(t, fmt.Sprintf("room for %d of %d blocks", k, len(classes)), full.set(q, hop, false), want)
			if want == api.ErrFull && !bytes.Equal(full.a.Encode(), was) {
				t.Fatalf("with room for %d of %d blocks the words have changed", k, len(classes))
			}
		}
	}
}

// Blocks that were taken from the edge on are free then, the first one of each class's first.
func TestFullAtTheEdge(t *testing.T) {
	for n := 64; n < 110; n++ {
		for _, q := range edges(4) {
			p := newPair(t, n, 4)
			p.set(q, 3, true)
			p.set(q, 4, true)
			p.set(pre(four(0x80), 1), 5, false)
		}
	}
	a := made(t, 64)
	if _, _, err := trie.Insert(a, 0, row(four(full(4)...), 32, 3)); err != api.ErrFull || len(a.Blocks()) != 0 {
		t.Errorf("Insert: %d, %v", err, a.Blocks())
	}
	// Results, node, and so on: three pairs of 7 words, and once more the results.
	var want []api.Piece
	for k := range 13 {
		want = append(want, api.Piece{Place: 17 + k/2*7 + k%2*2, Class: k % 2 * 2})
	}
	if got := a.Spare(); !slices.Equal(got, want) {
		t.Errorf("free are %v, not %v", got, want)
	}
	for class, first := range map[int]int{0: 17, 2: 19} {
		if place, err := a.Alloc(class); place != first || err != api.OK {
			t.Errorf("Alloc(%d): %d, %d, not %d", class, place, err, first)
		}
	}
}
