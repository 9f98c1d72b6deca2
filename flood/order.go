package flood

import (
	"iter"
	"slices"

	"fenberry/api"
)

// isOrder reports whether a list has each of so many beds once.
func isOrder(l []int, beds int) bool {
	if len(l) != beds {
		return false
	}
	var has [api.MaxBogs]bool
	for _, bed := range l {
		if !isWithin(bed, beds-1) || has[bed] {
			return false
		}
		has[bed] = true
	}
	return true
}

// orders yields all orders of so many beds, in lexicographic order.
func orders(beds int) iter.Seq[[]int] {
	return func(yield func([]int) bool) {
		var now [api.MaxBogs]int
		for bed := range beds {
			now[bed] = bed
		}
		for {
			order := make([]int, beds)
			copy(order, now[:])
			if !yield(order) || !advance(now[:beds]) {
				return
			}
		}
	}
}

// advance changes an order into the one behind it in lexicographic order; it returns false if there is none.
func advance(order []int) bool {
	turn := len(order) - 2
	for turn >= 0 && order[turn] > order[turn+1] {
		turn--
	}
	if turn < 0 {
		return false
	}
	// What is behind the turn falls, so the last greater bed is the least one that is greater.
	next := len(order) - 1
	for order[next] < order[turn] {
		next--
	}
	order[turn], order[next] = order[next], order[turn]
	slices.Reverse(order[turn+1:])
	return true
}

// best returns the best of the things that fit, of several the first one; compare is below 0 if a is better than b. It returns false if none fits.
func best[T any](things iter.Seq[T], fits func(t T) bool, compare func(a, b T) int) (T, bool) {
	var first T
	found := false
	for t := range things {
		if fits(t) && (!found || compare(t, first) < 0) {
			first, found = t, true
		}
	}
	return first, found
}
