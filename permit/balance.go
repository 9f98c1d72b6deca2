package permit

import "fenberry/api"

// balanceOf returns how much phosphorus is left, and how much left with the berries. The most that can be left is below 0 if what left is surely more than there was.
func balanceOf(x api.Phosphorus) (left, berries api.Span) {
	low, high := ends()
	inBerries := func(take end) int { return take(x.Berries) * take(x.Content) }
	berries = api.Span{Lo: inBerries(low), Hi: inBerries(high)}
	// Least is left if the least came and the most is gone, and the other way round.
	remains := func(came, gone end) int { return came(x.Before) + came(x.In) - gone(x.Out) - gone(berries) }
	left = api.Span{Lo: max(0, remains(low, high)), Hi: remains(high, low)}
	return left, berries
}
