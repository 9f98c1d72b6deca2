package late

import (
	"slices"

	"fenberry/api"
)

func validForecast(l api.Late) bool {
	if len(l.Warm) != len(l.Air) || len(l.Warm) > api.MaxLateDays {
		return false
	}
	if !areSpansWithin(l.Warm, api.MaxWarmth) || !areSpansWithin(l.Air, api.MaxOxygen) || !isSpanWithin(l.Rate, api.MaxRate) {
		return false
	}
	if !isWithin(l.Full, api.MaxOxygen) || !isSpanWithin(l.First, l.Full) || !isSpanWithin(l.Fresh, l.Full) {
		return false
	}
	weeds := isWithin(l.Base, api.MaxWarmth) && isWithin(l.Kill, api.MaxKill)
	return weeds && isWithin(l.Need, api.MaxOxygen) && isWithin(l.Bear, api.MaxLateDays)
}

func areSpansWithin(l []api.Span, most int) bool {
	return !slices.ContainsFunc(l, func(s api.Span) bool { return !isSpanWithin(s, most) })
}

func isSpanWithin(s api.Span, most int) bool { return 0 <= s.Lo && s.Lo <= s.Hi && s.Hi <= most }

func isWithin(n, most int) bool { return 0 <= n && n <= most }
