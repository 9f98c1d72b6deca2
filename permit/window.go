package permit

import (
	"cmp"
	"slices"

	"fenberry/api"
)

// never is the day of what does not happen.
const never = -1

// portion is a load that is let out on a day.
type portion struct{ day, load int }

// portionsOf returns the portions of discharges by rising day, each with one end of its load. 64 of them are less than 2^53 together.
func portionsOf(l []api.Discharge, take end) []portion {
	var all []portion
	for _, d := range l {
		all = append(all, portion{d.Day, take(d.Water) * take(d.Content)})
	}
	slices.SortStableFunc(all, func(a, b portion) int { return cmp.Compare(a.day, b.day) })
	return all
}

// window is the portions in so many days, by rising day. Its last day only goes on, and leaves the first portions behind.
type window struct {
	days   int
	inside []portion
}

// goOn makes a day the last one of the window.
func (w *window) goOn(day int) {
	for len(w.inside) > 0 && w.inside[0].day <= day-w.days {
		w.inside = w.inside[1:]
	}
}

// letOut makes the day of a portion the last one of the window, and adds the portion.
func (w *window) letOut(p portion) {
	w.goOn(p.day)
	w.inside = append(w.inside, p)
}

func (w *window) load() int {
	return sum(w.inside, func(p portion) int { return p.load })
}

// firstAbove returns the first day on which a window ends whose load is above the limit, or never. The load of a window is greater than the day before only on the day of a portion.
func firstAbove(l []portion, days, limit int) int {
	w := window{days: days}
	for _, p := range l {
		w.letOut(p)
		if w.load() > limit {
			return p.day
		}
	}
	return never
}

// greatestFrom returns the greatest load of the windows with a day that end on the day of a portion.
func greatestFrom(l []portion, days, day int) int {
	w := window{days: days}
	greatest := 0
	for _, p := range l {
		w.letOut(p)
		if p.day >= day && p.day < day+days {
			greatest = max(greatest, w.load())
		}
	}
	return greatest
}

// sum returns the sum of a number of each thing.
func sum[T any](things []T, number func(t T) int) int {
	n := 0
	for _, t := range things {
		n += number(t)
	}
	return n
}
