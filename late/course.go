package late

import (
	"iter"

	"fenberry/api"
)

// course is a flood of a valid forecast, with its fresh days.
type course struct {
	late  api.Late
	flood flood
	fresh set
}

// newCourse returns ErrArg unless the forecast is valid, ErrRange unless the flood is one, and the fresh days are days of it.
func newCourse(l api.Late, start, days int, fresh []int) (c course, e api.Errno) {
	defer func() {
		if recover() != nil {
			c, e = course{}, api.ErrRange
		}
	}()
	if !validForecast(l) {
		return course{}, api.ErrArg
	}
	f := newFlood(l, start, days)
	return course{late: l, flood: f, fresh: f.setOf(fresh)}, api.OK
}

// longestCourse returns the course of the longest flood with this start, without fresh days.
func longestCourse(l api.Late, start int) (course, api.Errno) {
	return newCourse(l, start, len(l.Warm)-start, nil)
}

// state is how a flood stands at the end of a day: how long it is till then, by what the weeds can have suffered, and both ends of the oxygen.
type state struct {
	days   int
	warmth api.Span
	least  bound[least]
	most   bound[most]
}

// noState is what a search returns that finds nothing.
func noState() state { return state{days: -1} }

func (s state) oxygen() api.Span {
	return api.Span{Lo: s.least.oxygen, Hi: s.most.oxygen}
}

// states yields the state ahead of the first day, and that at the end of each day.
func (c course) states() iter.Seq[state] {
	return func(yield func(state) bool) {
		now := state{least: boundOf[least](c.late.First), most: boundOf[most](c.late.First)}
		for now.days < c.flood.days {
			if !yield(now) {
				return
			}
			now = c.pass(now)
		}
		yield(now)
	}
}

// pass returns the state at the end of the day behind that of another state.
func (c course) pass(s state) state {
	next, day := s, c.flood.start+s.days
	next.days++
	next.warmth.Lo += max(0, c.late.Warm[day].Lo-c.late.Base)
	next.warmth.Hi += max(0, c.late.Warm[day].Hi-c.late.Base)
	next.least.pass(c.late, day, c.fresh.has(day))
	next.most.pass(c.late, day, c.fresh.has(day))
	return next
}

// end returns the last state.
func (c course) end() state {
	return c.search(func(s state) bool { return s.days < c.flood.days })
}

// drowned returns the first state in which the weeds surely are dead.
func (c course) drowned() state {
	return c.search(func(s state) bool { return s.warmth.Lo < c.late.Kill })
}

// hurt returns the first state in which the vines may be hurt.
func (c course) hurt() state {
	return c.search(func(s state) bool { return !c.hurts(s) })
}

// hurts reports whether the vines may be hurt in a state.
func (c course) hurts(s state) bool { return s.least.suffered > c.late.Bear }

// search returns the first state for which goesOn returns false, or noState if there is none.
func (c course) search(goesOn func(s state) bool) state {
	for s := range c.states() {
		if !goesOn(s) {
			return s
		}
	}
	return noState()
}
