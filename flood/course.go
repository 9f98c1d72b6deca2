package flood

import (
	"cmp"
	"slices"

	"fenberry/api"
)

// course is what is known of an order.
type course struct {
	order []int
	beds  []api.Flooded
	used  api.Used
}

// newCourse returns ErrArg unless the harvest is valid, ErrRange unless the order is one, ErrNone unless it can be, and ErrShort unless there is enough water for it.
func newCourse(given api.Harvest, order []int) (course, api.Errno) {
	h, e := newHarvest(given)
	if e != api.OK {
		return course{}, e
	}
	if !isOrder(order, len(h.Bogs)) {
		return course{}, api.ErrRange
	}
	c, e := h.follow(order)
	if e == api.OK && !h.hasEnough(c) {
		return course{}, api.ErrShort
	}
	return c, e
}

func (c course) last() api.Flooded { return c.beds[len(c.beds)-1] }

// harvested returns how many beds surely are harvested in a minute.
func (c course) harvested(minute int) int {
	n := 0
	for _, b := range c.beds {
		if b.Done.Hi <= minute {
			n++
		}
	}
	return n
}

// compare is below 0 if the course is better than another one.
func (c course) compare(other course) int {
	return cmp.Or(
		cmp.Compare(c.last().Done.Hi, other.last().Done.Hi),
		cmp.Compare(c.used.Taken.Hi, other.used.Taken.Hi),
		slices.Compare(c.order, other.order),
	)
}

// compareWater is below 0 if the course takes less water at most than another one, or as much and is better.
func (c course) compareWater(other course) int {
	return cmp.Or(cmp.Compare(c.used.Taken.Hi, other.used.Taken.Hi), c.compare(other))
}

func span(lo, hi int) api.Span { return api.Span{Lo: lo, Hi: hi} }

func plus(a, b api.Span) api.Span { return span(a.Lo+b.Lo, a.Hi+b.Hi) }
