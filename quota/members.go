package quota

import (
	"cmp"
	"slices"

	"fenberry/api"
)

// member is a grower who counts, and the grower's base.
type member struct{ grower, base int }

// membersOf returns all growers who count, by rising grower.
func membersOf(l []api.Crop, g api.Glut) []member {
	var members []member
	for grower, amounts := range gather(l, g) {
		members = append(members, member{grower, average(best(amounts, g.Best))})
	}
	sortBy(members, func(m member) int { return m.grower })
	return members
}

// gather returns the amounts of the crops in the years that count, by grower.
func gather(l []api.Crop, g api.Glut) map[int][]int {
	amounts := map[int][]int{}
	for _, c := range l {
		if c.Year >= g.Year-g.Years && c.Year < g.Year {
			amounts[c.Grower] = append(amounts[c.Grower], c.Amount)
		}
	}
	return amounts
}

// best returns the so many greatest amounts, or all if there are fewer.
func best(amounts []int, many int) []int {
	sortBy(amounts, func(n int) int { return -n })
	return amounts[:min(many, len(amounts))]
}

// average returns the average of at least one amount, rounded down.
func average(amounts []int) int {
	all := 0
	for _, n := range amounts {
		all += n
	}
	return all / len(amounts)
}

// baseOf returns all bases together.
func baseOf(members []member) int {
	all := 0
	for _, m := range members {
		all += m.base
	}
	return all
}

// sortBy sorts by a number, the least first; what has the same number stays in order.
func sortBy[T any](l []T, number func(t T) int) {
	slices.SortStableFunc(l, func(a, b T) int { return cmp.Compare(number(a), number(b)) })
}
