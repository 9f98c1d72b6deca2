package bloom

import (
	"slices"

	"fenberry/api"
)

const mostInHive = api.MaxFrames / api.MaxHives // frames

func validInspection(x api.Inspection) bool {
	if !isWithin(x.Hives, 1, api.MaxHives) || !isWithin(x.Least, 0, x.Most) || x.Most > mostInHive || len(x.Seen) > x.Hives {
		return false
	}
	return !slices.ContainsFunc(x.Seen, func(s api.Span) bool { return !isSpanWithin(s, x.Least, x.Most) })
}

func validBloom(x api.Bloom) bool {
	numbers := isWithin(x.Days, 0, api.MaxBloom) && isWithin(x.Moves, 0, api.MaxColonies) && isRent(x.Fee)
	return numbers && validColonies(x.Colonies) && validBeds(x.Beds)
}

func validColonies(l []api.Colony) bool {
	return len(l) <= api.MaxColonies && !slices.ContainsFunc(l, func(c api.Colony) bool {
		return !isSpanWithin(c.Frames, 0, api.MaxFrames) || !isRent(c.Price)
	})
}

func validBeds(l []api.BloomBed) bool {
	return len(l) <= api.MaxBlooming && !slices.ContainsFunc(l, func(b api.BloomBed) bool { return !isWithin(b.Need, 0, api.MaxFrames) })
}

// fits reports whether a plan has a place for each day and colony of a valid bloom: Away, or one of its beds.
func fits(plan [][]int, x api.Bloom) bool {
	return len(plan) == x.Days && !slices.ContainsFunc(plan, func(row []int) bool {
		return len(row) != len(x.Colonies) || !allPlaced(row, len(x.Beds))
	})
}

func allPlaced(row []int, beds int) bool {
	return !slices.ContainsFunc(row, func(place int) bool { return !isWithin(place, api.Away, beds-1) })
}

func isRent(n int) bool { return isWithin(n, 0, api.MaxRent) }

func isSpanWithin(s api.Span, least, most int) bool {
	return least <= s.Lo && s.Lo <= s.Hi && s.Hi <= most
}

func isWithin(n, least, most int) bool { return least <= n && n <= most }
