package quota

import (
	"sort"

	"fenberry/api"
)

// quotasOf returns the quotas of members with a percent.
func quotasOf(members []member, percent int) []api.Quota {
	var l []api.Quota
	for _, m := range members {
		l = append(l, api.Quota{Grower: m.grower, Base: m.base, Amount: m.base * percent / api.Whole})
	}
	return l
}

// greatestPercent returns the greatest percent with which all quotas together are at most the demand. With 0 they are, and a greater percent lowers no quota.
func greatestPercent(members []member, demand int) int {
	return sort.Search(api.Whole, func(percent int) bool {
		return together(quotasOf(members, percent+1)) > demand
	})
}

// sharesOf shares a total among members by their bases, which are not all 0. No product is above 2^60: the total is at most 2^20, and a base at most 2^40.
func sharesOf(members []member, total int) []api.Quota {
	all := baseOf(members)
	var l []api.Quota
	for _, m := range members {
		l = append(l, api.Quota{Grower: m.grower, Base: m.base, Amount: total * m.base / all})
	}
	for _, i := range mostCutOff(members, total)[:total-together(l)] {
		l[i].Amount++
	}
	return l
}

// mostCutOff returns the indexes of members, those first of whose parts of a total most is cut off by rounding.
func mostCutOff(members []member, total int) []int {
	all := baseOf(members)
	var indexes []int
	for i := range members {
		indexes = append(indexes, i)
	}
	sortBy(indexes, func(i int) int { return -(total * members[i].base % all) })
	return indexes
}

// together returns the sum of all amounts.
func together(l []api.Quota) int {
	n := 0
	for _, q := range l {
		n += q.Amount
	}
	return n
}
