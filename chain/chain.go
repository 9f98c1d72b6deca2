// Package chain follows the water of a chain of reservoirs, hour by hour: what comes, what goes through culverts, what is taken, seeps away or spills, each known within bounds.
package chain

import (
	"sort"

	"fenberry/api"
)

// Check returns ErrArg unless the chain is valid.
func Check(c api.Chain) api.Errno {
	if !validChain(c) {
		return api.ErrArg
	}
	return api.OK
}

// Pass returns what is known behind an hour: the water, the boards of all gates, and the flows.
func Pass(c api.Chain, w []api.Span, h api.Hour) (next []api.Span, boards []int, f api.Flows, e api.Errno) {
	l := []api.Hour{h}
	if e := checkHours(c, w, l); e != api.OK {
		return nil, nil, api.Flows{}, e
	}
	least, greatest := runBoth(c, w, l)
	return waterBetween(least, greatest), least.boards(), flowsBetween(least, greatest), api.OK
}

// Run returns the water behind the last of the hours, and the sums of the flows of all of them.
func Run(c api.Chain, w []api.Span, l []api.Hour) (end []api.Span, f api.Flows, e api.Errno) {
	if e := checkHours(c, w, l); e != api.OK {
		return nil, api.Flows{}, e
	}
	least, greatest := runBoth(c, w, l)
	return waterBetween(least, greatest), flowsBetween(least, greatest), api.OK
}

// Low returns the first hour behind which a pond may have less than its number in least, and the first such pond; ErrNone if there is none.
func Low(c api.Chain, w []api.Span, l []api.Hour, least []int) (hour, pond int, e api.Errno) {
	if e := checkHours(c, w, l); e != api.OK {
		return 0, 0, e
	}
	if !validLeast(c, least) {
		return 0, 0, api.ErrRange
	}
	x := start(c, w, extreme{})
	for i, h := range hours(l) {
		x.pass(h)
		if p, found := firstBelow(x.water, least); found {
			return i, p, api.OK
		}
	}
	return 0, 0, api.ErrNone
}

// Most returns the greatest amount that can be taken out of a pond in each hour more, so that every take gets all, and Low finds none; ErrNone if not even nothing can be taken.
func Most(c api.Chain, w []api.Span, l []api.Hour, least []int, pond int) (int, api.Errno) {
	if e := checkHours(c, w, l); e != api.OK {
		return 0, e
	}
	if !validLeast(c, least) || !isIndex(pond, len(c.Ponds)) {
		return 0, api.ErrRange
	}
	enough := func(amount int) bool {
		more := api.Take{Pond: pond, Amount: amount}
		return start(c, w, extreme{}).suffices(hours(l, more), least)
	}
	if !enough(0) {
		return 0, api.ErrNone
	}
	// The more is taken, the less is left: what is too much stays too much.
	return sort.Search(api.MaxWater, func(amount int) bool { return !enough(amount + 1) }), api.OK
}

// Steady reports whether no pond's least water is less behind the hour than ahead of it.
func Steady(c api.Chain, w []api.Span, h api.Hour) (bool, api.Errno) {
	if e := checkHours(c, w, []api.Hour{h}); e != api.OK {
		return false, e
	}
	x := start(c, w, extreme{})
	before := ends(x.end, w)
	x.pass(h)
	_, found := firstBelow(x.water, before)
	return !found, api.OK
}

// runBoth lets the hours pass in the least and in the greatest case.
func runBoth(c api.Chain, w []api.Span, l []api.Hour) (least, greatest *course) {
	least, greatest = start(c, w, extreme{}), start(c, w, extreme{greatest: true})
	for _, h := range hours(l) {
		least.pass(h)
		greatest.pass(h)
	}
	return least, greatest
}

func waterBetween(least, greatest *course) []api.Span {
	l := make([]api.Span, len(least.water))
	for i, lo := range least.water {
		l[i] = api.Span{Lo: lo, Hi: greatest.water[i]}
	}
	return l
}

func flowsBetween(least, greatest *course) api.Flows {
	return api.Flows{
		Came:   api.Span{Lo: least.came, Hi: greatest.came},
		Seeped: api.Span{Lo: least.seeped, Hi: greatest.seeped},
		River:  api.Span{Lo: least.river, Hi: greatest.river},
		Taken:  api.Span{Lo: least.taken, Hi: greatest.taken},
	}
}

// firstBelow returns the first pond with less water than its number in least.
func firstBelow(water, least []int) (pond int, found bool) {
	for i, v := range water {
		if v < least[i] {
			return i, true
		}
	}
	return 0, false
}
