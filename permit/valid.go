package permit

import (
	"slices"

	"fenberry/api"
)

func validDischarges(l []api.Discharge) bool {
	return len(l) <= api.MaxDischarges && !slices.ContainsFunc(l, isBadDischarge)
}

func isBadDischarge(d api.Discharge) bool {
	return !isWithin(d.Day, api.MaxDay) || !isSpanWithin(d.Water, api.MaxLet) || !isSpanWithin(d.Content, api.MaxContent)
}

func validFlow(f api.Flow) bool {
	return isSpanWithin(f.Water, api.MaxLet) && isSpanWithin(f.Warm, api.MaxWarm)
}

func validNests(l []api.Nest) bool {
	return len(l) <= api.MaxNests && !slices.ContainsFunc(l, isBadNest)
}

func isBadNest(n api.Nest) bool {
	return !isWithin(n.Reach, api.MaxReach) || !isSpanWithin(api.Span{Lo: n.From, Hi: n.To}, api.MaxDay)
}

func validPhosphorus(x api.Phosphorus) bool {
	for _, s := range [...]api.Span{x.Before, x.In, x.Out} {
		if !isSpanWithin(s, api.MaxAmount) {
			return false
		}
	}
	return isSpanWithin(x.Berries, api.MaxLet) && isSpanWithin(x.Content, api.MaxContent/100)
}

func areWithin(l []int, most int) bool {
	return !slices.ContainsFunc(l, func(n int) bool { return !isWithin(n, most) })
}

func isSpanWithin(s api.Span, most int) bool { return 0 <= s.Lo && s.Lo <= s.Hi && s.Hi <= most }

func isWithin(n, most int) bool { return 0 <= n && n <= most }

func isFrom1To(n, most int) bool { return 1 <= n && n <= most }
