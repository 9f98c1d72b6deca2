package quota

import (
	"slices"

	"fenberry/api"
)

func validCrops(l []api.Crop) bool {
	return len(l) <= api.MaxCrops && !slices.ContainsFunc(l, isBadCrop) && !hasTwice(l)
}

func isBadCrop(c api.Crop) bool {
	return !isWithin(c.Grower, api.MaxGrower) || !isWithin(c.Year, api.MaxYear) || !isWithin(c.Amount, api.MaxAmount)
}

// hasTwice reports whether two crops are of the same grower and year.
func hasTwice(l []api.Crop) bool {
	type season struct{ grower, year int }
	seen := map[season]bool{}
	for _, c := range l {
		s := season{c.Grower, c.Year}
		if seen[s] {
			return true
		}
		seen[s] = true
	}
	return false
}

func validGlut(g api.Glut) bool {
	return isWithin(g.Year, api.MaxYear) && isFrom1To(g.Years, api.MaxLook) && isFrom1To(g.Best, g.Years) && isWithin(g.Percent, api.Whole)
}

// isBadEvent looks at To only if the event is a lease.
func isBadEvent(v api.QuotaEvent) bool {
	if v.Kind != api.Bring && v.Kind != api.Lease {
		return true
	}
	if v.Kind == api.Lease && !isWithin(v.To, api.MaxGrower) {
		return true
	}
	return !isWithin(v.Grower, api.MaxGrower) || !isFrom1To(v.Amount, api.MaxAmount)
}

func isWithin(n, most int) bool { return 0 <= n && n <= most }

func isFrom1To(n, most int) bool { return 1 <= n && n <= most }
