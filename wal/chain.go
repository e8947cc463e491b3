package wal

import (
	"slices"

	"junctionbox/api"
)

// chain is a snapshot, and the transactions behind it. Of a zero one there is none: turns go from 1 on.
type chain struct {
	turn         uint32
	snapshot     []byte
	transactions [][]byte
	used         int // sectors of its area
}

// begun is the chain of a snapshot alone.
func begun(turn uint32, b []byte) chain {
	return chain{turn: turn, snapshot: slices.Clone(b), used: Sectors(len(b))}
}

// next is the frame that would go on with a chain.
func (c chain) next(b []byte) frame {
	return frame{turn: c.turn, number: uint32(len(c.transactions) + 1), bytes: b}
}

// add has b for the last transaction.
func (c *chain) add(b []byte) {
	c.transactions = append(c.transactions, slices.Clone(b))
	c.used += Sectors(len(b))
}

// chainOf is the chain of an area; a zero one, if it has none.
func chainOf(sectors []api.Block) chain {
	f, ok := frameAt(sectors)
	if !ok || f.number != 0 {
		return chain{}
	}
	c := begun(f.turn, f.bytes)
	for {
		f, ok = frameAt(sectors[c.used:])
		next := c.next(nil)
		if !ok || f.turn != next.turn || f.number != next.number {
			return c
		}
		c.add(f.bytes)
	}
}
