package chain

import (
	"iter"
	"slices"

	"fenberry/api"
)

const million = 1_000_000 // what seeps away is given in millionths

// bound is the case that bounds all others on one side: more water somewhere never means less anywhere later, so each span is used by one of its ends.
type bound interface {
	end(s api.Span) int
	stays(v int, seep api.Span) int
	seeps(v int, seep api.Span) int
}

// extreme is the greatest case, or the least one.
type extreme struct{ greatest bool }

func (x extreme) end(s api.Span) int {
	if x.greatest {
		return s.Hi
	}
	return s.Lo
}

// stays returns what is left of v litres: the most if the least seeps away.
func (x extreme) stays(v int, seep api.Span) int {
	if x.greatest {
		return v - leastSeeping(v, seep)
	}
	return v - mostSeeping(v, seep)
}

// seeps returns what is counted as seeped. It is not what stays leaves away, as each of the two numbers is bounded without regard to the other.
func (x extreme) seeps(v int, seep api.Span) int {
	if x.greatest {
		return mostSeeping(v, seep)
	}
	return leastSeeping(v, seep)
}

func leastSeeping(v int, seep api.Span) int { return v * seep.Lo / million }

func mostSeeping(v int, seep api.Span) int { return (v*seep.Hi + million - 1) / million }

// course is what happens to a chain in one of the extreme cases: the water now, and the sums of the flows until now.
type course struct {
	bound
	ponds  []api.Pond
	gates  []api.Gate
	water  []int
	strict bool // a take that is short panics

	came, seeped, river, taken int
}

// shortTake is the panic of a take that gets less than its amount.
type shortTake struct{}

// start returns the course of a valid chain, ahead of its first hour. The gates are copied, as hours set their boards.
func start(c api.Chain, w []api.Span, b bound) *course {
	return &course{bound: b, ponds: c.Ponds, gates: slices.Clone(c.Gates), water: ends(b.end, w)}
}

// ends returns what pick takes of each of the spans.
func ends(pick func(api.Span) int, l []api.Span) []int {
	numbers := make([]int, len(l))
	for i, s := range l {
		numbers[i] = pick(s)
	}
	return numbers
}

// hours yields the hours in their order, each with some more takes behind its own.
func hours(l []api.Hour, more ...api.Take) iter.Seq2[int, api.Hour] {
	return func(yield func(int, api.Hour) bool) {
		for i, h := range l {
			h.Takes = slices.Concat(h.Takes, more)
			if !yield(i, h) {
				return
			}
		}
	}
}

// suffices reports whether in all hours each take gets all, and no pond has less than its number in least.
func (c *course) suffices(all iter.Seq2[int, api.Hour], least []int) (enough bool) {
	c.strict = true
	defer func() {
		if recover() != nil {
			enough = false
		}
	}()
	for _, h := range all {
		c.pass(h)
		if _, found := firstBelow(c.water, least); found {
			return false
		}
	}
	return true
}

// pass lets an hour pass.
func (c *course) pass(h api.Hour) {
	for _, b := range h.Boards {
		c.gates[b.Gate].Boards = b.Boards
	}
	for i, litres := range ends(c.end, h.Comes) {
		c.water[i] += litres
		c.came += litres
	}
	for _, g := range c.gates {
		c.flow(g)
	}
	for _, t := range h.Takes {
		c.take(t)
	}
	for i, p := range c.ponds {
		v := c.water[i]
		c.water[i] = c.stays(v, p.Seep)
		c.seeped += c.seeps(v, p.Seep)
	}
	for i, p := range c.ponds {
		c.move(i, p.Spill, max(0, c.water[i]-p.Full))
	}
}

// flow lets water through a gate.
func (c *course) flow(g api.Gate) {
	crest := g.Sill + g.Boards*g.Step
	c.move(g.From, g.To, min(g.Most, max(0, c.water[g.From]-crest)))
}

func (c *course) take(t api.Take) {
	got := min(t.Amount, c.water[t.Pond])
	if c.strict && got < t.Amount {
		panic(shortTake{})
	}
	c.water[t.Pond] -= got
	c.taken += got
}

// move moves litres from a pond to another one, or to the river.
func (c *course) move(from, to, litres int) {
	c.water[from] -= litres
	if to == toRiver {
		c.river += litres
	} else {
		c.water[to] += litres
	}
}

func (c *course) boards() []int {
	l := make([]int, len(c.gates))
	for i, g := range c.gates {
		l[i] = g.Boards
	}
	return l
}
