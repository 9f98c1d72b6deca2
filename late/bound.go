package late

import "fenberry/api"

// side is on which side of all that can be true the oxygen is looked at. More of what comes and less of what is used never leads to less oxygen, so the ends of each day are those of the next one, too.
type side interface {
	// end returns the end of what comes.
	end(s api.Span) int
	// used returns how much is used in a day.
	used(rate, warm api.Span) int
}

type least struct{}

func (least) end(s api.Span) int { return s.Lo }

// used is rounded up.
func (least) used(rate, warm api.Span) int { return (rate.Hi*warm.Hi + 99) / 100 }

type most struct{}

func (most) end(s api.Span) int { return s.Hi }

// used is rounded down.
func (most) used(rate, warm api.Span) int { return rate.Lo * warm.Lo / 100 }

// bound is how much oxygen there is on one side, and on how many days the vines have suffered.
type bound[S side] struct{ oxygen, suffered int }

// boundOf returns the bound ahead of all days.
func boundOf[S side](first api.Span) bound[S] {
	var at S
	return bound[S]{oxygen: at.end(first)}
}

// pass lets a day pass.
func (b *bound[S]) pass(l api.Late, day int, fresh bool) {
	var at S
	if fresh {
		b.oxygen = at.end(l.Fresh)
	}
	b.oxygen += at.end(l.Air[day]) - at.used(l.Rate, l.Warm[day])
	b.oxygen = min(max(0, b.oxygen), l.Full)
	if b.oxygen < l.Need {
		b.suffered++
	}
}
