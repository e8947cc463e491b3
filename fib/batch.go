package fib

import (
	"iter"

	"junctionbox/api"
	"junctionbox/arena"
	"junctionbox/trie"
)

// ground is the arena that a fib embeds, without the arena's own calls: those would be the fib's, too, and whoever has a fib could change blocks beside it.
type ground arena.Arena

// act is what may be done to the trie at a root: it answers the root behind it, and what it has retired.
type act func(g *ground, root int, h api.Row) (int, []int, api.Errno)

func (g *ground) arena() *arena.Arena {
	return (*arena.Arena)(g)
}

// insert puts a row in the trie at a root.
func (g *ground) insert(root int, h api.Row) (int, []int, api.Errno) {
	return trie.Insert(g.arena(), root, h)
}

// remove takes a row's prefix out of the trie at a root.
func (g *ground) remove(root int, h api.Row) (int, []int, api.Errno) {
	return trie.Delete(g.arena(), root, h.Prefix)
}

// places tells those of all blocks that are taken, rising. Blocks may be taken and given back meanwhile: it tells those that were at its beginning.
func (g *ground) places() iter.Seq[int] {
	return func(yield func(int) bool) {
		for _, p := range g.arena().Blocks() {
			if !yield(p.Place) {
				return
			}
		}
	}
}

// giveBack gives blocks back. The root cell leads to none of them, so none is refused.
func (g *ground) giveBack(places iter.Seq[int]) {
	for place := range places {
		g.arena().Free(place)
	}
}

// batch is one that is open.
type batch struct {
	root    api.Root         // of which Four and Six are what it has come to
	before  map[int]struct{} // the blocks that were taken at its beginning
	retired []int
}

func begun(g *ground) *batch {
	b := &batch{root: g.arena().Root(), before: map[int]struct{}{}}
	for place := range g.places() {
		b.before[place] = struct{}{}
	}
	return b
}

// took is whether the block that is taken at that place was taken in this batch.
func (b *batch) took(place int) bool {
	_, was := b.before[place]
	return !was
}

// taken tells those of the places whose blocks were taken in this batch.
func (b *batch) taken(places iter.Seq[int]) iter.Seq[int] {
	return func(yield func(int) bool) {
		for place := range places {
			if b.took(place) && !yield(place) {
				return
			}
		}
	}
}
