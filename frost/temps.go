package frost

import (
	"iter"

	"fenberry/api"
)

// noCourse is the panic of a night whose readings contradict each other.
type noCourse struct{}

// slots yields the slots from one to another one, that one too.
func slots(from, to int) iter.Seq[int] {
	return func(yield func(int) bool) {
		for slot := from; slot <= to; slot++ {
			if !yield(slot) {
				return
			}
		}
	}
}

// temperatures returns the temperatures of a valid night; ErrState if it has no course.
func temperatures(n api.Night) (temps []api.Span, e api.Errno) {
	defer func() {
		if recover() != nil {
			temps, e = nil, api.ErrState
		}
	}()
	return spansBetween(leastTemps(n), greatestTemps(n)), api.OK
}

// greatestTemps returns the greatest temperatures: no reading lets the temperature be greater than the one from which it fell, or to which it rose, as fast as it can.
func greatestTemps(n api.Night) []int {
	return bound(n, api.MaxDegree, lesser, func(r api.Reading, slot int) int {
		ahead, behind := distances(r.Slot, slot)
		return r.Value - n.Sensors[r.Sensor].Lo + ahead*n.Fall + behind*n.Rise
	})
}

// leastTemps returns the least temperatures.
func leastTemps(n api.Night) []int {
	return bound(n, -api.MaxDegree, greater, func(r api.Reading, slot int) int {
		ahead, behind := distances(r.Slot, slot)
		return r.Value - n.Sensors[r.Sensor].Hi - ahead*n.Rise - behind*n.Fall
	})
}

// bound returns the bound of each slot's temperature on one side: the tightest one of a limit and of what each reading allows there.
func bound(n api.Night, limit int, tighter func(a, b int) int, allows func(r api.Reading, slot int) int) []int {
	bounds := make([]int, n.Slots)
	for slot := range slots(0, n.Slots-1) {
		bounds[slot] = limit
		for _, r := range n.Readings {
			bounds[slot] = tighter(bounds[slot], allows(r, slot))
		}
	}
	return bounds
}

// spansBetween panics if a least temperature is above the greatest one. If none is, both the least and the greatest ones are a course, as no two neighbours differ by more than the night allows.
func spansBetween(least, greatest []int) []api.Span {
	temps := make([]api.Span, len(least))
	for slot, lo := range least {
		if lo > greatest[slot] {
			panic(noCourse{})
		}
		temps[slot] = api.Span{Lo: lo, Hi: greatest[slot]}
	}
	return temps
}

// distances returns how many slots a slot lies ahead of a reading's one, and how many behind it.
func distances(reading, slot int) (ahead, behind int) {
	return max(0, reading-slot), max(0, slot-reading)
}

func lesser(a, b int) int { return min(a, b) }

func greater(a, b int) int { return max(a, b) }
