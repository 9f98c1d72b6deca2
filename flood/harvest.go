package flood

import (
	"iter"

	"fenberry/api"
)

// harvest is a valid one, with the work of each bed.
type harvest struct {
	api.Harvest
	works []api.Span
}

// newHarvest returns ErrArg unless the harvest is valid.
func newHarvest(given api.Harvest) (harvest, api.Errno) {
	if !validHarvest(given) {
		return harvest{}, api.ErrArg
	}
	h := harvest{Harvest: given}
	for _, b := range h.Bogs {
		h.works = append(h.works, h.workOf(b))
	}
	return h, api.OK
}

func (h harvest) workOf(b api.Bog) api.Span {
	work := api.Span{Lo: api.MaxWorking}
	for wind, s := range b.Work {
		if h.Winds>>wind&1 == 1 {
			work.Lo, work.Hi = min(work.Lo, s.Lo), max(work.Hi, s.Hi)
		}
	}
	return work
}

// hasEnough reports whether there is enough water for a course, whatever leaks.
func (h harvest) hasEnough(c course) bool { return c.used.Taken.Hi <= h.Reserve }

// courses yields the courses of all orders that can be.
func (h harvest) courses() iter.Seq[course] {
	return func(yield func(course) bool) {
		for order := range orders(len(h.Bogs)) {
			if c, e := h.follow(order); e == api.OK && !yield(c) {
				return
			}
		}
	}
}

// least returns the course that takes the least water at most, of several the best one; false if no order can be.
func (h harvest) least() (course, bool) {
	return best(h.courses(), func(course) bool { return true }, course.compareWater)
}

// follow returns the course of an order, ErrNone if it cannot be.
func (h harvest) follow(order []int) (c course, e api.Errno) {
	defer func() {
		if recover() != nil {
			c, e = course{}, api.ErrNone
		}
	}()
	c = course{order: order, beds: make([]api.Flooded, 0, len(order))}
	h.begin(&c, order[0])
	for _, bed := range order[1:] {
		h.goOn(&c, bed)
	}
	return c, api.OK
}

// noFlume is the panic of an order that cannot be, as no water goes from one bed to the next one.
type noFlume struct{}

// begin floods the first bed out of the reservoir.
func (h harvest) begin(c *course, bed int) {
	need := h.Bogs[bed].Need
	c.used.Taken = span(need, need)
	h.flood(c, bed, api.Span{}, minutes(need, h.Inlet))
}

// goOn floods the next bed with the water of the last one.
func (h harvest) goOn(c *course, bed int) {
	last := c.last()
	rate := h.Rates[last.Bed][bed]
	if rate == 0 {
		panic(noFlume{})
	}
	need, left := h.Bogs[bed].Need, c.used.Left
	c.used.Taken = plus(c.used.Taken, span(max(0, need-left.Hi), max(0, need-left.Lo)))
	c.used.Spilled = plus(c.used.Spilled, span(max(0, left.Lo-need), max(0, left.Hi-need)))
	h.flood(c, bed, last.Done, minutes(need, rate))
}

// flood fills a bed in so many minutes from begin on, and harvests it.
func (h harvest) flood(c *course, bed int, begin api.Span, filling int) {
	b, work := h.Bogs[bed], h.works[bed]
	filled := plus(begin, span(filling, filling))
	c.beds = append(c.beds, api.Flooded{Bed: bed, Filled: filled, Done: plus(filled, work)})
	// A longer harvest leaks no less.
	leaked := span(min(b.Need, work.Lo*b.Leak.Lo), min(b.Need, work.Hi*b.Leak.Hi))
	c.used.Leaked = plus(c.used.Leaked, leaked)
	c.used.Left = span(b.Need-leaked.Hi, b.Need-leaked.Lo)
}

// minutes returns in how many minutes so much water goes through, with so many litres in a minute.
func minutes(water, rate int) int { return (water + rate - 1) / rate }
