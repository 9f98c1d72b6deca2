package plant

import (
	"cmp"
	"slices"

	"fenberry/api"
)

// freezer is the lots that are to be frozen, and how much of each one is left.
type freezer struct {
	lots []api.Freeze
	left []int
}

// compare tells which one of two lots is due first.
func (f freezer) compare(a, b int) int { return cmp.Compare(f.lots[a].Due, f.lots[b].Due) }

// order returns the lots in the order in which the freezer takes them.
func (f freezer) order() []int {
	order := make([]int, len(f.lots))
	for i := range order {
		order[i] = i
	}
	slices.SortStableFunc(order, f.compare)
	return order
}

// freeze freezes a lot, or as much of it as there is room for, and returns the room that is left.
func (f freezer) freeze(lot, room int) int {
	n := min(room, f.left[lot])
	f.left[lot] -= n
	return room - n
}

// isWaiting tells whether a lot is there in an hour, and not yet frozen.
func (f freezer) isWaiting(lot, hour int) bool { return f.lots[lot].Ready <= hour && f.left[lot] > 0 }

// frozen returns for each lot the first hour before which it is frozen.
func frozen(l []api.Freeze, rate int) []int {
	f := freezer{lots: l}
	done := make([]int, 0, len(l))
	for _, x := range l {
		f.left = append(f.left, x.Mass)
		done = append(done, doneAtFirst(x))
	}
	order := f.order()
nextHour:
	for hour := range api.MaxFreezing {
		room := rate
		for _, lot := range order {
			if room == 0 {
				continue nextHour
			}
			if !f.isWaiting(lot, hour) {
				continue
			}
			room = f.freeze(lot, room)
			if f.left[lot] == 0 {
				done[lot] = hour + 1
			}
		}
	}
	return done
}

// doneAtFirst returns before which hour a lot is frozen if the freezer does not run.
func doneAtFirst(x api.Freeze) int {
	if x.Mass == 0 {
		return x.Ready
	}
	return api.MaxFreezing + 1
}

// hasNoTime tells whether there is a lot that is late at any rate.
func hasNoTime(l []api.Freeze) bool {
	return slices.ContainsFunc(l, func(x api.Freeze) bool { return x.Mass > 0 && x.Ready == x.Due })
}

// leastRate returns the least rate with which no lot is late: the one with which the freezer can freeze, between each two hours, what comes and is due between them.
func leastRate(l []api.Freeze) int {
	rate := 1
	for _, first := range l {
		for _, last := range l {
			from, to := first.Ready, last.Due
			if from < to {
				rate = max(rate, dividedUp(between(l, from, to), to-from))
			}
		}
	}
	return rate
}

// between returns how many grams are ready at an hour or later, and due at another one or earlier.
func between(l []api.Freeze, from, to int) int {
	n := 0
	for _, x := range l {
		if x.Ready >= from && x.Due <= to {
			n += x.Mass
		}
	}
	return n
}

// dividedUp returns a / b, rounded up; neither is below 0.
func dividedUp(a, b int) int { return (a + b - 1) / b }
