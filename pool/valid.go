package pool

import (
	"slices"

	"fenberry/api"
)

func validTerms(t api.Terms) bool {
	lines := len(t.Lines)
	return lines >= 1 && lines <= api.MaxLines && !slices.ContainsFunc(t.Lines, isBadPrice) && isWithin(t.Advance, api.Whole)
}

func isBadPrice(p api.Price) bool {
	return !isWithin(p.PerGram, api.MaxPerGram) || !isWithin(p.PerColour, api.MaxPerColour)
}

func validDeliveries(l []api.Delivery) bool {
	return len(l) <= api.MaxDeliveries && !slices.ContainsFunc(l, isBadDelivery)
}

func isBadDelivery(d api.Delivery) bool {
	return !isWithin(d.Grower, api.MaxGrower) || !isWithin(d.Good, api.MaxGross) || !isWithin(d.Colour, d.Good*api.MaxColour)
}

func isWithin(n, most int) bool { return 0 <= n && n <= most }
