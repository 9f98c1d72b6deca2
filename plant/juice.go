package plant

import (
	"iter"

	"fenberry/api"
)

// mostWith returns how many grams of juice there can be at most with so much sugar, so that it is so strong.
func mostWith(sugar, strength int) int { return sugar * api.MaxStrong / strength }

// blend is how many units are taken of each tank.
type blend [api.MaxTanks]int

// cheapest returns the blend that costs least.
func cheapest(l []api.Tank, r api.Recipe) (best blend, found bool) {
	for b := range blends(l, r) {
		// They come in lexicographic order, so of several that cost as much the first one stays.
		if !found || b.cost(l) < best.cost(l) {
			best, found = b, true
		}
	}
	return best, found
}

// blends yields all blends of a recipe, in lexicographic order.
func blends(l []api.Tank, r api.Recipe) iter.Seq[blend] {
	return func(yield func(blend) bool) {
		blend{}.complete(l, 0, r.Units, func(b blend) bool { return !b.isRight(l, r) || yield(b) })
	}
}

// complete yields b with all ways to take so many units more of the tanks from next on; it returns false if no more are wanted.
func (b blend) complete(l []api.Tank, next, units int, yield func(b blend) bool) bool {
	if next == len(l) {
		return units > 0 || yield(b)
	}
	least := max(0, units-held(l[next+1:]))
	most := min(units, l[next].Units)
	for n := least; n <= most; n++ {
		b[next] = n
		if !b.complete(l, next+1, units-n, yield) {
			return false
		}
	}
	return true
}

// held returns how many units there are in tanks.
func held(l []api.Tank) int {
	n := 0
	for _, t := range l {
		n += t.Units
	}
	return n
}

// isRight tells whether sugar, acid and colour are what the recipe says.
func (b blend) isRight(l []api.Tank, r api.Recipe) bool {
	sugar := b.sum(l, func(t api.Tank) int { return t.Sugar })
	acid := b.sum(l, func(t api.Tank) int { return t.Acid })
	colour := b.sum(l, func(t api.Tank) int { return t.Colour })
	return isMixed(sugar, r.Units, r.Sugar) && isMixed(acid, r.Units, r.Acid) && isMixed(colour, r.Units, r.Colour)
}

// isMixed tells whether a sum over so many units is within the span for each one.
func isMixed(sum, units int, s api.Span) bool { return units*s.Lo <= sum && sum <= units*s.Hi }

func (b blend) cost(l []api.Tank) int {
	return b.sum(l, func(t api.Tank) int { return t.Price })
}

// sum returns the sum of a number of each tank, times the units that are taken of it.
func (b blend) sum(l []api.Tank, number func(t api.Tank) int) int {
	n := 0
	for i, t := range l {
		n += b[i] * number(t)
	}
	return n
}

// list returns the units of each tank that there is.
func (b blend) list(l []api.Tank) []int { return append([]int(nil), b[:len(l)]...) }
