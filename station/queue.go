package station

import "fenberry/api"

// yard is how the station stands: when each of the bays is free, and when the last truck has begun.
type yard struct {
	free  [api.MaxBays]int
	bays  int
	begun int
}

// turn is when the station is ready for a truck, and when its unloading begins and ends.
type turn struct{ ready, begin, end int }

// nextBay returns the bay that is free first.
func (y yard) nextBay() int {
	next := 0
	for bay := range y.bays {
		if y.free[bay] < y.free[next] {
			next = bay
		}
	}
	return next
}

// unload returns how the station stands behind the next truck, and the turn of this one.
func (y yard) unload(arrive, work int) (yard, turn) {
	bay := y.nextBay()
	ready := max(y.begun, y.free[bay])
	t := turn{ready: ready, begin: max(ready, arrive)}
	t.end = t.begin + work
	y.free[bay], y.begun = t.end, t.begin
	return y, t
}

// unloading returns a function that unloads one truck after the other; end tells it which end of each span to take.
func unloading(bays int, end func(s api.Span) int) func(t api.Truck) turn {
	now := yard{bays: bays}
	return func(t api.Truck) turn {
		next, its := now.unload(end(t.Arrive), end(t.Work))
		now = next
		return its
	}
}

// visits returns what is known of each truck's unloading with so many bays.
func visits(l []api.Truck, bays int) []api.Visit {
	// No truck begins earlier because another one comes later or takes longer, so the ends of the spans give the ends of all times.
	early := unloading(bays, func(s api.Span) int { return s.Lo })
	late := unloading(bays, func(s api.Span) int { return s.Hi })
	all := make([]api.Visit, 0, len(l))
	for _, t := range l {
		first, last := early(t), late(t)
		all = append(all, api.Visit{
			Begin: span(first.begin, last.begin),
			End:   span(first.end, last.end),
			// When the station is ready for a truck does not depend on when this one arrives.
			Wait: span(max(0, first.ready-t.Arrive.Hi), max(0, last.ready-t.Arrive.Lo)),
		})
	}
	return all
}

// longestWait returns for how many minutes a truck can wait at most.
func longestWait(l []api.Visit) int {
	longest := 0
	for _, v := range l {
		longest = max(longest, v.Wait.Hi)
	}
	return longest
}

func span(lo, hi int) api.Span { return api.Span{Lo: lo, Hi: hi} }
