package spray

import (
	"slices"

	"fenberry/api"
)

func validYard(y api.Yard) bool {
	if len(y.Products) > api.MaxSprays || len(y.Beds) > api.MaxSprayBeds || len(y.Stands) > api.MaxStands || len(y.Jobs) > api.MaxJobs {
		return false
	}
	if !allHold(y.Products, validProduct) || !allHold(y.Beds, validBed) || !allHold(y.Stands, validStand) {
		return false
	}
	return allHold(y.Jobs, func(j api.Job) bool { return validJob(j, y) }) && keepsUses(y)
}

func validProduct(p api.Product) bool {
	numbers := isMetres(p.Reach) && isWithin(p.Stay, 0, api.MaxStay) && isWithin(p.Uses, 1, api.MaxUses)
	return numbers && len(p.Wait) <= api.MaxMarkets && allHold(p.Wait, func(days int) bool { return isWithin(days, 0, api.MaxWait) })
}

func validBed(b api.SprayBed) bool {
	return isMetres(b.X) && isMetres(b.Y) && isDay(b.Harvest) && isIndex(b.Market, api.MaxMarkets)
}

func validStand(s api.Stand) bool {
	return isMetres(s.X) && isMetres(s.Y) && isDay(s.From) && isDay(s.To) && s.From <= s.To
}

// validJob reports whether a job is valid in a yard with valid products and beds.
func validJob(j api.Job, y api.Yard) bool {
	if !isIndex(j.Bed, len(y.Beds)) || !isIndex(j.Product, len(y.Products)) {
		return false
	}
	days := isDay(j.From) && isDay(j.To) && isWithin(j.To-j.From, 0, api.MaxJobDays)
	return days && isIndex(y.Beds[j.Bed].Market, len(y.Products[j.Product].Wait))
}

// keepsUses reports whether no bed gets a product too often, in a yard with valid jobs.
func keepsUses(y api.Yard) bool {
	type use struct{ bed, product int }
	times := map[use]int{}
	for _, j := range y.Jobs {
		u := use{j.Bed, j.Product}
		times[u]++
		if times[u] > y.Products[j.Product].Uses {
			return false
		}
	}
	return true
}

func validTrap(t api.Trap) bool {
	return isWithin(t.Caught, 0, api.MaxCaught) && 1 <= t.Rate.Lo && t.Rate.Lo <= t.Rate.Hi && t.Rate.Hi <= api.Whole
}

func allHold[T any](l []T, holds func(T) bool) bool {
	return !slices.ContainsFunc(l, func(x T) bool { return !holds(x) })
}

func isMetres(n int) bool { return isWithin(n, 0, api.MaxMetres) }

func isDay(n int) bool { return isWithin(n, 0, api.MaxDay) }

func isIndex(i, length int) bool { return isWithin(i, 0, length-1) }

func isWithin(n, least, most int) bool { return least <= n && n <= most }
