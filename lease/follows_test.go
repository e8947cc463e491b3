package lease_test

import (
	"testing"

	"junctionbox/api"
	"junctionbox/lease"
)

// P13.3

// granting is a grant of server 2: both clocks when it was.
type granting struct {
	one, two uint64
}

// pair is both servers, what is on its way between them, and what their clocks may do.
type pair struct {
	t         *testing.T
	drift     int64 // what the clock of 2 may gain on that of 1
	one, two  api.Lease
	asked     []uint64 // the stamps of what 1 has asked; all of it may come, in whichever order, again and again
	told      []uint64 // the stamps that 2 has granted
	grantings []granting
}

func newPair(t *testing.T, drift int64, one, two uint64) *pair {
	return &pair{t: t, drift: drift, one: api.Lease{Now: one}, two: api.Lease{Now: two}}
}

// mayTick is whether the clock of 2 keeps the bound of each grant at its next tick.
func (p *pair) mayTick() bool {
	for _, g := range p.grantings {
		gone := int64(p.two.Now + 1 - g.two)
		if gone <= 12 && gone-int64(p.one.Now-g.one) > p.drift {
			return false
		}
	}
	return true
}

func (p *pair) tickOne() {
	p.t.Helper()
	p.one = ticked(p.t, p.one, 1)
}

// tickTwo answers whether the clock of 2 could go on.
func (p *pair) tickTwo() bool {
	p.t.Helper()
	if !p.mayTick() {
		return false
	}
	p.two = ticked(p.t, p.two, 1)
	return true
}

func (p *pair) ask() {
	p.asked = append(p.asked, p.one.Now)
}

func (p *pair) grant(stamp uint64) {
	p.t.Helper()
	p.two = grant(p.t, p.two)
	p.told = append(p.told, stamp)
	p.grantings = append(p.grantings, granting{p.one.Now, p.two.Now})
}

func (p *pair) granted(stamp uint64) {
	p.t.Helper()
	p.one = granted(p.t, p.one, stamp)
}

// both is whether there are two who may take themselves to be the active one.
func (p *pair) both() bool {
	return lease.Holds(p.one) && lease.Free(p.two)
}

// counts is how often walks have come to what matters.
type counts struct {
	held, freed, edge, both int
}

func (c *counts) look(p *pair) {
	if lease.Holds(p.one) {
		c.held++
	}
	if len(p.told) > 0 && lease.Free(p.two) {
		c.freed++
	}
	if p.one.Held > 0 && p.one.Now == p.one.Held && p.two.Promised > 0 && p.two.Now == p.two.Promised {
		c.edge++
	}
	if p.both() {
		c.both++
	}
}

// step has something happen; an eager one has the clock of 2 go as far as it may.
func (p *pair) step(d *dice, eager bool) {
	p.t.Helper()
	switch d.roll(8) {
	case 0, 1:
		p.tickOne()
	case 2, 3:
		for range 20 { // the promise is over by then
			if !p.tickTwo() || !eager || lease.Free(p.two) {
				break
			}
		}
	case 4:
		p.ask()
	case 5:
		if len(p.asked) > 0 {
			p.grant(p.asked[d.near(len(p.asked))])
		}
	default:
		if len(p.told) > 0 {
			p.granted(p.told[d.near(len(p.told))])
		}
	}
}

// near is a place of a list of n, often one of the last ones.
func (d *dice) near(n int) int {
	if d.roll(3) == 0 {
		return d.roll(n)
	}
	return n - 1 - d.roll(min(n, 3))
}

// walk is many runs of two clocks of which that of 2 may gain so many ticks.
func walk(t *testing.T, drift int64, runs int) counts {
	t.Helper()
	d, c := dice(1303), counts{}
	starts := []uint64{0, 1, 1000, 1 << 61, top - 400}
	for i := range runs {
		p := newPair(t, drift, starts[d.roll(len(starts))], starts[d.roll(len(starts))])
		for range 120 {
			p.step(&d, i%2 == 0)
			c.look(p)
		}
	}
	return c
}

func TestOneAtMostIsActive(t *testing.T) {
	c := walk(t, api.Drift, 3000)
	if c.both > 0 {
		t.Errorf("at %d times 1 holds and 2 is free", c.both)
	}
	if c.held < 1000 || c.freed < 1000 || c.edge < 10 {
		t.Errorf("the walks come to little: %+v", c)
	}
}

// The bound is what it has to be: with one tick more there are two. So the walks would find what is wrong.
func TestOneTickMoreIsTooMuch(t *testing.T) {
	if c := walk(t, api.Drift+1, 3000); c.both == 0 {
		t.Errorf("the walks come to little: %+v", c)
	}
}

// Of one grant each course of both clocks is gone through: how long the asking and the answer are on their way, and how far each clock has gone by then.
func TestEachCourseOfOneGrant(t *testing.T) {
	for away := range 12 {
		for first := range 16 {
			for late := range first + 1 {
				for second := range 30 {
					if second <= 12 && second-first > 4 || second > 12 && 12-first > 4 {
						continue
					}
					p := newPair(t, api.Drift, 40, 90)
					p.ask()
					p.one = ticked(t, p.one, away)
					p.grant(40)
					p.one = ticked(t, p.one, late)
					p.granted(40)
					p.one, p.two = ticked(t, p.one, first-late), ticked(t, p.two, second)
					if p.both() {
						t.Fatalf("asked %d ticks ahead, and %d and %d ticks behind the grant: 1 holds and 2 is free", away, first, second)
					}
				}
			}
		}
	}
}

// Who has never granted is free all along.
func TestNeverGranted(t *testing.T) {
	l := api.Lease{}
	for range 40 {
		free(t, l, true)
		holds(t, l, false)
		l = ticked(t, l, 1)
	}
}

// A grant of what was asked earlier, or a second time, takes nothing back.
func TestLateGrantsTakeNothingBack(t *testing.T) {
	p := newPair(t, api.Drift, 0, 0)
	p.ask()
	p.one = ticked(t, p.one, 5)
	p.ask()
	for _, stamp := range []uint64{5, 0, 5, 0} {
		p.grant(stamp)
		p.granted(stamp)
		if p.one.Held != 13 || p.two.Promised != 12 {
			t.Errorf("%v, %v", p.one, p.two)
		}
	}
}
