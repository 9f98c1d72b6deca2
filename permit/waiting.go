package permit

import (
	"iter"

	"fenberry/api"
)

// closedDays yields the days on which nothing may be let into a reach, nest by nest.
func closedDays(nests []api.Nest, reach int) iter.Seq[int] {
	return func(yield func(day int) bool) {
		for _, n := range nests {
			for day := n.From; n.Reach == reach && day <= n.To; day++ {
				if !yield(day) {
					return
				}
			}
		}
	}
}

// openDays returns the days from a day to another one that are not closed.
func openDays(nests []api.Nest, reach, from, to int) []int {
	var closed [api.MaxDay + 1]bool
	for day := range closedDays(nests, reach) {
		closed[day] = true
	}
	var open []int
	for day := from; day <= to; day++ {
		if !closed[day] {
			open = append(open, day)
		}
	}
	return open
}

// earliest returns for each load the first open day on which it can go; ErrNone if there is none. A load that goes earlier keeps no later one waiting longer, so none has to try its other days.
func earliest(loads, open []int, days, limit int) ([]int, api.Errno) {
	w := window{days: days}
	var schedule []int
waiting:
	for _, load := range loads {
		for i, day := range open {
			w.goOn(day)
			if w.load()+load > limit {
				continue
			}
			w.letOut(portion{day, load})
			schedule = append(schedule, day)
			open = open[i+1:]
			continue waiting
		}
		return nil, api.ErrNone
	}
	return schedule, api.OK
}
