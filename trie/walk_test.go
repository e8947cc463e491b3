package trie_test

import (
	"maps"
	"slices"
	"testing"

	"junctionbox/api"
	"junctionbox/arena"
	"junctionbox/trie"
)

// P8.4

func TestWalkInOrder(t *testing.T) {
	for _, version := range []int{4, 6} {
		a, root, want := made(t, 4000), 0, table{}
		for i, q := range edges(version) {
			root = insert(t, a, root, api.Row{Prefix: q, Hop: i + 1})
			want[begun(q)] = i + 1
		}
		stays(t, a, "Walk, Reach", func() {
			rows, err := trie.Walk(a, root, version)
			if err != api.OK || !slices.Equal(rows, want.rows(version)) {
				t.Errorf("Walk: %v, %d", rows, err)
			}
			places, err := trie.Reach(a, root, version)
			if err != api.OK || !slices.Equal(places, taken(a)) {
				t.Errorf("Reach: %v, %d, not %v", places, err, taken(a))
			}
			rows[0], places[0] = api.Row{}, -1 // they are the caller's
			holds(t, a, root, version, want)
		})
	}
	a := made(t, 400)
	p, q, r, s := row(four(), 0, 1), row(four(10), 8, 2), row(four(10), 9, 3), row(four(10), 12, 4)
	u, v := row(four(10, 8), 13, 5), row(four(9, 255), 16, 6)
	root := insert(t, a, 0, s, v, u, p, r, q)
	if rows, err := trie.Walk(a, root, 4); err != api.OK || !slices.Equal(rows, []api.Row{p, v, q, r, s, u}) {
		t.Errorf("Walk: %v, %d", rows, err)
	}
}

// Reach tells the trie's blocks alone, whatever else is taken.
func TestReachAmongOthers(t *testing.T) {
	l := layOne(t)
	was := taken(l.a)
	block(t, l.a, 2, 1, uint32(l.oneResults))
	insert(t, l.a, 0, row(four(10), 8, 3))
	if got := reach(t, l.a, l.root, 4); !slices.Equal(got, was) || !slices.IsSorted(got) {
		t.Errorf("Reach: %v, not %v", got, was)
	}
	if got := reach(t, l.a, l.deepest, 4); !slices.Equal(got, []int{l.deepestResults, l.deepest}) {
		t.Errorf("Reach of the deepest one: %v", got)
	}
}

// P8.5

// A walk of changes: each word of the arena is what the hand makes of it, and all that is told what the table tells.
func TestWalks(t *testing.T) {
	d := dice(85)
	for round := range 16 {
		n := []int{100, 300, 1000, 16384}[round/2%4]
		p := newPair(t, n, 4+2*(round%2))
		for range 60 {
			q := d.prefix(p.version)
			if rows := p.m.rows(p.version); len(rows) > 0 && d.roll(2) == 0 {
				q = rows[d.roll(len(rows))].Prefix
			}
			p.set(q, d.roll(3)*(1+d.roll(127)), true)
			holds(t, p.a, p.root, p.version, p.m)
			if got := reach(t, p.a, p.root, p.version); !slices.Equal(got, taken(p.a)) {
				t.Fatalf("Reach: %v, not %v", got, taken(p.a))
			}
			for range 4 {
				looks(t, p.a, p.root, p.m, d.addr(p.version))
			}
			looks(t, p.a, p.root, p.m, q.Addr)
			if m, _, ok := readingOf(p.a).all(p.root, p.version); !ok || !maps.Equal(m, p.m) {
				t.Fatalf("read once more the trie is %v, not %v", m, p.m)
			}
		}
		for _, h := range p.m.rows(p.version) {
			p.set(h.Prefix, 0, true)
		}
		if len(p.m) == 0 && (p.root != 0 || len(p.a.Blocks()) != 0) {
			t.Errorf("the root is %d, and %v are left", p.root, p.a.Blocks())
		}
	}
}

// run is a seek under way: behind how many changes it began, how many steps it has gone, and what it has to come to.
type run struct {
	seek        api.Seek
	turn, steps int
	want        api.Row
	found       bool
}

// Seeks go on in the trie in which they began, whatever is inserted and deleted, till its blocks are given back, which they are here some changes later.
func TestSeeksGoOn(t *testing.T) {
	const kept = 5
	d := dice(86)
	for _, version := range []int{4, 6} {
		a, root, m := made(t, 16384), 0, table{}
		var runs []run
		var waiting [][]int
		late := 0
		for turn := range 200 {
			next, retired := changed(t, &d, a, root, version, m)
			root, waiting = next, append(waiting, retired)
			if len(waiting) > kept {
				giveBack(t, a, waiting[0])
				waiting = waiting[1:]
			}
			for range 4 {
				r := run{seek: begin(t, d.addr(version), root), turn: turn}
				r.want, r.found = m.longest(r.seek.Addr)
				runs = append(runs, r)
			}
			var rest []run
			for _, r := range runs {
				if r.goOn(t, a, d.roll(2)); turn-r.turn >= kept-1 { // the next change gives its blocks back
					r.goOn(t, a, version*32)
				}
				if !r.seek.Over {
					rest = append(rest, r)
				} else if r.ends(t); r.steps > 1 && turn > r.turn {
					late++
				}
			}
			runs = rest
		}
		if late < 100 {
			t.Errorf("only %d seeks came to their end behind a change", late)
		}
	}
}

// changed does one change, to a table too.
func changed(t *testing.T, d *dice, a *arena.Arena, root, version int, m table) (int, []int) {
	t.Helper()
	if rows := m.rows(version); len(rows) > 12 || len(rows) > 0 && d.roll(3) == 0 {
		q := rows[d.roll(len(rows))].Prefix
		next, retired, err := trie.Delete(a, root, q)
		is(t, "Delete", err, api.OK)
		delete(m, begun(q))
		return next, retired
	}
	q, hop := d.prefix(version), 1+d.roll(255)
	next, retired, err := trie.Insert(a, root, api.Row{Prefix: q, Hop: hop})
	is(t, "Insert", err, api.OK)
	m[begun(q)] = hop
	return next, retired
}

// goOn leads a seek so many steps on at most.
func (r *run) goOn(t *testing.T, a *arena.Arena, most int) {
	t.Helper()
	for ; most > 0 && !r.seek.Over; most-- {
		next, err := trie.Next(a, r.seek)
		if err != api.OK {
			t.Fatalf("Next(%v): %d", r.seek, err)
		}
		r.seek = next
		r.steps++
	}
}

// ends holds a seek that is over against what it had to come to.
func (r *run) ends(t *testing.T) {
	t.Helper()
	var got api.Row
	if r.seek.Found {
		got = api.Row{Prefix: fromBits(r.seek.Addr.Version, spelled(r.seek.Addr)[:r.seek.Bits]), Hop: r.seek.Hop}
	}
	if got != r.want || r.seek.Found != r.found || r.steps > widthOf(r.seek.Addr.Version)/4+1 {
		t.Fatalf("a seek came to %v in %d steps, not to %v, %t", r.seek, r.steps, r.want, r.found)
	}
}

// What is asked leaves the arena as it is.
func TestAskingChangesNothing(t *testing.T) {
	l := layOne(t)
	stays(t, l.a, "asking", func() {
		for _, root := range []int{0, 1, l.root, l.one, l.results} {
			for _, version := range []int{4, 5, 6} {
				trie.Check(l.a, root, version)
				trie.Walk(l.a, root, version)
				trie.Reach(l.a, root, version)
				trie.Lookup(l.a, root, addrOf(version, 10))
				trie.Next(l.a, api.Seek{Addr: addrOf(version, 10), Place: root, Depth: version})
			}
		}
	})
}
