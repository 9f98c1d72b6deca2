package flood

import (
	"slices"

	"fenberry/api"
)

func validHarvest(h api.Harvest) bool {
	beds := len(h.Bogs)
	if beds < 1 || beds > api.MaxBogs || slices.ContainsFunc(h.Bogs, isBadBog) {
		return false
	}
	if h.Winds < 1 || h.Winds >= 1<<api.MaxWinds || !validRates(h.Rates, beds) {
		return false
	}
	return h.Inlet >= 1 && h.Inlet <= api.MaxPipe && isWithin(h.Reserve, api.MaxAmount)
}

func isBadBog(b api.Bog) bool {
	if b.Need < 1 || b.Need > api.MaxWater || !isSpanWithin(b.Leak, api.MaxLeak) || len(b.Work) != api.MaxWinds {
		return true
	}
	return slices.ContainsFunc(b.Work, func(s api.Span) bool { return !isSpanWithin(s, api.MaxWorking) })
}

func validRates(rates [][]int, beds int) bool {
	if len(rates) != beds {
		return false
	}
	for _, row := range rates {
		if len(row) != beds || slices.ContainsFunc(row, isBadRate) {
			return false
		}
	}
	return true
}

func isBadRate(rate int) bool { return !isWithin(rate, api.MaxPipe) }

func isSpanWithin(s api.Span, most int) bool { return 0 <= s.Lo && s.Lo <= s.Hi && s.Hi <= most }

func isWithin(n, most int) bool { return 0 <= n && n <= most }
