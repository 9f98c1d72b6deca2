package bloom

import "fenberry/api"

// never is more than any plan costs: what is left to be paid if no good plan follows.
const never = api.MaxAmount

// season is a valid bloom.
type season struct{ api.Bloom }

// wrong is the panic of a day that is not good.
type wrong struct {
	day int
	e   api.Errno
}

// eve is the night ahead of a day, with the places on the day before: what is left to be paid depends on nothing else.
type eve struct {
	day int
	places
}

// choice is the best places for the next day, and what is left to be paid with them.
type choice struct {
	next places
	cost int
}

// costOf returns what a plan costs. It panics on a day that is not good.
func (s season) costOf(plan [][]int) int {
	cost, at := 0, eve{places: allAway()}
	for _, row := range plan {
		now := placesOf(row)
		if e := s.fault(at, now); e != api.OK {
			panic(wrong{at.day, e})
		}
		cost += s.price(at, now)
		at = eve{at.day + 1, now}
	}
	return cost
}

// chooser returns a function that finds the best places behind a night: the first ones with the least cost.
func (s season) chooser() func(at eve) choice {
	left := map[eve]choice{}
	var choose func(at eve) choice
	choose = func(at eve) choice {
		if at.day == s.Days {
			return choice{}
		}
		if c, known := left[at]; known {
			return c
		}
		best := choice{cost: never}
		for now := range allPlaces(len(s.Colonies), len(s.Beds)) {
			if s.fault(at, now) != api.OK {
				continue
			}
			if cost := s.price(at, now) + choose(eve{at.day + 1, now}).cost; cost < best.cost {
				best = choice{now, cost}
			}
		}
		left[at] = best
		return best
	}
	return choose
}

// fault returns why the day behind a night is not good with its places; OK if it is.
func (s season) fault(at eve, now places) api.Errno {
	switch {
	case s.takesMissing(at.day, now):
		return api.ErrRefuse
	case moves(at.places, now) > s.Moves:
		return api.ErrLimit
	case s.starves(at.day, now):
		return api.ErrShort
	}
	return api.OK
}

// takesMissing reports whether a colony is on a bed that is not to be had on the day.
func (s season) takesMissing(day int, now places) bool {
	for i, c := range s.Colonies {
		if now[i] != api.Away && !isWithin(day, c.From, c.To) {
			return true
		}
	}
	return false
}

// starves reports whether a bed that blooms on the day may have too few frames.
func (s season) starves(day int, now places) bool {
	for i, b := range s.Beds {
		if isWithin(day, b.From, b.To) && s.frames(i, now) < b.Need {
			return true
		}
	}
	return false
}

// frames returns how many frames there are surely on a bed.
func (s season) frames(bed int, now places) int {
	sum := 0
	for i, c := range s.Colonies {
		if now[i] == bed {
			sum += c.Frames.Lo
		}
	}
	return sum
}

// price returns what a night's moves and the day behind it cost.
func (s season) price(at eve, now places) int {
	cost := s.Fee * moves(at.places, now)
	for i, c := range s.Colonies {
		if now[i] != api.Away {
			cost += c.Price
		}
	}
	return cost
}
