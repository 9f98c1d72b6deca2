package permit

import "fenberry/api"

// waters is how much water two flows have.
type waters struct{ a, b int }

// corners returns the corners of the rectangle of all that two flows can have.
func corners(a, b api.Span) [4]waters {
	return [4]waters{{a.Lo, b.Lo}, {a.Lo, b.Hi}, {a.Hi, b.Lo}, {a.Hi, b.Hi}}
}

// mixed returns how warm two flows are together that surely have some water. More water of one of them makes them always warmer or always cooler, so they are coolest and warmest at corners.
func mixed(a, b api.Flow) api.Span {
	low, high := ends()
	warm := api.Span{Lo: api.MaxWarm}
	for _, w := range corners(a.Water, b.Water) {
		all := w.a + w.b
		coolest := w.a*low(a.Warm) + w.b*low(b.Warm)
		warmest := w.a*high(a.Warm) + w.b*high(b.Warm)
		warm.Lo = min(warm.Lo, coolest/all)
		warm.Hi = max(warm.Hi, (warmest+all-1)/all)
	}
	return warm
}

// taken returns how much water a river that is not above the limit surely takes. It takes least if there is little water in it, and all is as warm as it can be.
func taken(river api.Flow, warm api.Span, limit int) int {
	if warm.Hi <= limit {
		return api.MaxLet
	}
	room := river.Water.Lo * (limit - river.Warm.Hi)
	return min(api.MaxLet, room/(warm.Hi-limit))
}
