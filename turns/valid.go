package turns

import (
	"slices"

	"fenberry/api"
)

// valid reports whether the rights, the asks and the supply are valid.
func valid(l []api.Right, asks []api.Ask, s api.Supply) bool {
	return validRights(l) && validAsks(l, asks) && validSupply(s)
}

func validRights(l []api.Right) bool {
	if len(l) > api.MaxRights {
		return false
	}
	for i, r := range l {
		if !validRight(r) || hasRight(l[:i], r.Grower) {
			return false
		}
	}
	return true
}

func validRight(r api.Right) bool {
	placed := isWithin(r.Grower, 0, api.MaxGrower) && isWithin(r.Rank, 0, api.MaxRank)
	return placed && isWithin(r.Share, 1, api.MaxShare) && isAmount(r.Most) && isAmount(r.Total)
}

func validAsks(l []api.Right, asks []api.Ask) bool {
	if len(asks) > api.MaxAsks {
		return false
	}
	for _, a := range asks {
		if !hasRight(l, a.Grower) || !validAsk(a) {
			return false
		}
	}
	return true
}

func validAsk(a api.Ask) bool {
	return 0 <= a.From && a.From <= a.To && a.To < api.MaxSlots && isWithin(a.Amount, 1, api.MaxAmount)
}

func validSupply(s api.Supply) bool {
	return len(s.Water) <= api.MaxSlots && allAmounts(s.Water) && isAmount(s.Store)
}

// validNeeds reports whether there is an amount for each of the rights.
func validNeeds(l []api.Right, needs []int) bool {
	return len(needs) == len(l) && allAmounts(needs)
}

func hasRight(l []api.Right, grower int) bool {
	return slices.ContainsFunc(l, func(r api.Right) bool { return r.Grower == grower })
}

func allAmounts(l []int) bool {
	return !slices.ContainsFunc(l, func(n int) bool { return !isAmount(n) })
}

func isAmount(n int) bool { return isWithin(n, 0, api.MaxAmount) }

func isWithin(n, least, most int) bool { return least <= n && n <= most }
