package drum

import "fenberry/api"

// tracer tells how much from a bed can be where, behind all that happened in a cellar.
type tracer struct {
	cellar *cellar
	net    net
}

func (c *cellar) tracer() tracer { return tracer{c, c.pipes.net()} }

// within returns how much from a bed can be in a vessel.
func (t tracer) within(vessel, bed int) api.Span {
	now := t.cellar.place(vessel)
	return t.share(bed, func(p place) bool { return p == now })
}

// wasted returns how much from a bed can have been thrown away.
func (t tracer) wasted(bed int) api.Span {
	return t.share(bed, func(p place) bool { return p == wastePlace() })
}

// share returns how much from a bed can be in those of the last places for which isThere is true. There is the least of it if the most is in the other ones: what flows to them is always a part of a flow of all that was delivered, and the rest of that is there.
func (t tracer) share(bed int, isThere func(p place) bool) api.Span {
	isElsewhere := func(p place) bool { return t.cellar.isLast(p) && !isThere(p) }
	return api.Span{
		Lo: t.cellar.pipes.delivered(bed) - t.net.most(bed, isElsewhere),
		Hi: t.net.most(bed, isThere),
	}
}
