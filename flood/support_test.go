package flood_test

import (
	"math"
	"math/rand/v2"
	"slices"
	"testing"

	"fenberry/api"
	"fenberry/flood"
)

func span(lo, hi int) api.Span { return api.Span{Lo: lo, Hi: hi} }

func one(n int) api.Span { return span(n, n) }

// works returns the work of a bed with each wind, in each as many minutes.
func works(minutes api.Span) []api.Span { return slices.Repeat([]api.Span{minutes}, api.MaxWinds) }

// example returns the harvest of the chapter's examples.
func example() api.Harvest {
	return api.Harvest{
		Bogs: []api.Bog{
			{Need: 1000, Leak: span(0, 2), Work: []api.Span{span(100, 120), span(150, 200), {}, {}}},
			{Need: 1200, Leak: one(1), Work: []api.Span{span(50, 60), span(50, 90), {}, {}}},
			{Need: 800, Work: []api.Span{one(200), one(80), {}, {}}},
		},
		Rates: [][]int{{0, 100, 50}, {100, 0, 80}, {40, 0, 0}},
		Inlet: 50, Reserve: 2000, Winds: 1,
	}
}

func withReserve(h api.Harvest, reserve int) api.Harvest {
	h.Reserve = reserve
	return h
}

// even returns a harvest of so many beds that need 10 litres, go from each to each in a minute, do not leak and take no work.
func even(beds int) api.Harvest {
	h := api.Harvest{Inlet: 10, Reserve: 10, Winds: 15}
	for range beds {
		h.Bogs = append(h.Bogs, api.Bog{Need: 10, Work: works(api.Span{})})
		h.Rates = append(h.Rates, slices.Repeat([]int{10}, beds))
	}
	return h
}

// strangeNumbers are beyond limits, or at them.
func strangeNumbers() []int {
	return []int{math.MinInt, math.MinInt + 1, -2, -1, 0, 1, 2, 3, 6, 7, 8, 15, 16, 63, 64, 1 << 14, 1<<14 + 1, 1 << 20, 1<<20 + 1, 1 << 30, 1<<30 + 1, 1 << 36, 1<<36 + 1, 1 << 40, 1<<40 + 1, math.MaxInt - 1, math.MaxInt}
}

func clone(h api.Harvest) api.Harvest {
	h.Bogs, h.Rates = slices.Clone(h.Bogs), slices.Clone(h.Rates)
	for i := range h.Bogs {
		h.Bogs[i].Work = slices.Clone(h.Bogs[i].Work)
	}
	for i := range h.Rates {
		h.Rates[i] = slices.Clone(h.Rates[i])
	}
	return h
}

func sameHarvest(a, b api.Harvest) bool {
	sameBog := func(a, b api.Bog) bool {
		return a.Need == b.Need && a.Leak == b.Leak && slices.Equal(a.Work, b.Work)
	}
	if !slices.EqualFunc(a.Bogs, b.Bogs, sameBog) || !slices.EqualFunc(a.Rates, b.Rates, slices.Equal[[]int]) {
		return false
	}
	return a.Inlet == b.Inlet && a.Reserve == b.Reserve && a.Winds == b.Winds
}

func expectTimes(t *testing.T, name string, h api.Harvest, order []int, want []api.Flooded, wantUsed api.Used, wantError api.Errno) {
	t.Helper()
	if l, u, e := flood.Times(h, order); !slices.Equal(l, want) || u != wantUsed || e != wantError {
		t.Error(name, order, l, u, e, "instead of", want, wantUsed, wantError)
	}
}

func expectThrough(t *testing.T, name string, h api.Harvest, order []int, minute, want int, wantError api.Errno) {
	t.Helper()
	if n, e := flood.Through(h, order, minute); n != want || e != wantError {
		t.Error(name, order, minute, n, e, "instead of", want, wantError)
	}
}

func expectBest(t *testing.T, name string, h api.Harvest, want []int, wantError api.Errno) {
	t.Helper()
	if l, e := flood.Best(h); !slices.Equal(l, want) || e != wantError {
		t.Error(name, l, e, "instead of", want, wantError)
	}
}

func expectLeast(t *testing.T, name string, h api.Harvest, wantWater int, want []int, wantError api.Errno) {
	t.Helper()
	if water, l, e := flood.Least(h); water != wantWater || !slices.Equal(l, want) || e != wantError {
		t.Error(name, water, l, e, "instead of", wantWater, want, wantError)
	}
}

// standing is what can be true when a bed is harvested: the minute, the water of all beds till then, and what is left in this bed.
type standing struct{ minute, taken, leaked, spilled, left int }

// judgeMinutes returns how many minutes water takes, poured minute by minute.
func judgeMinutes(water, rate int) int {
	minutes := 0
	for gone := 0; gone < water; gone += rate {
		minutes++
	}
	return minutes
}

// judgeWork returns the work of a bed, as the chapter says it.
func judgeWork(h api.Harvest, bed int) api.Span {
	var lows, highs []int
	for wind, s := range h.Bogs[bed].Work {
		if slices.Contains([][]int{0: {}, 1: {0}, 2: {1}, 3: {0, 1}, 4: {2}, 5: {0, 2}, 6: {1, 2}, 7: {0, 1, 2}, 8: {3}, 9: {0, 3}, 10: {1, 3}, 11: {0, 1, 3}, 12: {2, 3}, 13: {0, 2, 3}, 14: {1, 2, 3}, 15: {0, 1, 2, 3}}[h.Winds], wind) {
			lows, highs = append(lows, s.Lo), append(highs, s.Hi)
		}
	}
	return span(slices.Min(lows), slices.Max(highs))
}

// judgeFilled returns how a bed stands when it is full, if it is flooded behind another one, as the chapter says it.
func judgeFilled(h api.Harvest, s standing, from, bed int) standing {
	need := h.Bogs[bed].Need
	s.minute += judgeMinutes(need, h.Rates[from][bed])
	if s.left < need {
		s.taken += need - s.left
	} else {
		s.spilled += s.left - need
	}
	s.left = need
	return s
}

// judgeHarvested goes through all that can be true of the harvest of a bed, minute by minute and litre by litre.
func judgeHarvested(h api.Harvest, now map[standing]bool, bed int) map[standing]bool {
	done := map[standing]bool{}
	work, leak := judgeWork(h, bed), h.Bogs[bed].Leak
	for minute := 0; minute <= work.Hi; minute++ {
		next := map[standing]bool{}
		for s := range now {
			if minute >= work.Lo {
				done[s] = true
			}
			for litres := leak.Lo; litres <= leak.Hi; litres++ {
				gone := min(litres, s.left)
				next[standing{s.minute + 1, s.taken, s.leaked + gone, s.spilled, s.left - gone}] = true
			}
		}
		now = next
	}
	return done
}

// ends returns the least and the greatest of some numbers of what can be true.
func ends(all map[standing]bool, number func(s standing) int) api.Span {
	s := span(math.MaxInt, math.MinInt)
	for x := range all {
		s = span(min(s.Lo, number(x)), max(s.Hi, number(x)))
	}
	return s
}

func canBe(h api.Harvest, order []int) bool {
	for i := 1; i < len(order); i++ {
		if h.Rates[order[i-1]][order[i]] == 0 {
			return false
		}
	}
	return true
}

// judgeTimes goes through all that can be true of an order that can be.
func judgeTimes(h api.Harvest, order []int) (l []api.Flooded, u api.Used) {
	minute := func(s standing) int { return s.minute }
	first := h.Bogs[order[0]].Need
	now := map[standing]bool{{minute: judgeMinutes(first, h.Inlet), taken: first, left: first}: true}
	for i, bed := range order {
		if i > 0 {
			next := map[standing]bool{}
			for s := range now {
				next[judgeFilled(h, s, order[i-1], bed)] = true
			}
			now = next
		}
		filled := ends(now, minute)
		now = judgeHarvested(h, now, bed)
		l = append(l, api.Flooded{Bed: bed, Filled: filled, Done: ends(now, minute)})
	}
	u.Taken = ends(now, func(s standing) int { return s.taken })
	u.Leaked = ends(now, func(s standing) int { return s.leaked })
	u.Spilled = ends(now, func(s standing) int { return s.spilled })
	u.Left = ends(now, func(s standing) int { return s.left })
	return l, u
}

// allOrders returns all orders of so many beds, in lexicographic order.
func allOrders(beds int) [][]int {
	lists := [][]int{nil}
	for range beds {
		var longer [][]int
		for _, l := range lists {
			for bed := range beds {
				if !slices.Contains(l, bed) {
					longer = append(longer, append(slices.Clone(l), bed))
				}
			}
		}
		lists = longer
	}
	return lists
}

// candidate is an order that can be, with what its being better hangs on.
type candidate struct {
	order          []int
	through, taken int
}

// isBetter compares as the chapter says it.
func (c candidate) isBetter(d candidate) bool {
	if c.through != d.through {
		return c.through < d.through
	}
	if c.taken != d.taken {
		return c.taken < d.taken
	}
	for i := range c.order {
		if c.order[i] != d.order[i] {
			return c.order[i] < d.order[i]
		}
	}
	return false
}

// candidates returns all orders that can be; times returns what is known of one.
func candidates(h api.Harvest, times func(h api.Harvest, order []int) ([]api.Flooded, api.Used)) []candidate {
	var all []candidate
	for _, order := range allOrders(len(h.Bogs)) {
		if canBe(h, order) {
			l, u := times(h, order)
			all = append(all, candidate{order, l[len(l)-1].Done.Hi, u.Taken.Hi})
		}
	}
	return all
}

// judgeBest returns the best one of the candidates that take at most the reserve.
func judgeBest(all []candidate, reserve int) ([]int, api.Errno) {
	if len(all) == 0 {
		return nil, api.ErrNone
	}
	var best *candidate
	for i, c := range all {
		if c.taken <= reserve && (best == nil || c.isBetter(*best)) {
			best = &all[i]
		}
	}
	if best == nil {
		return nil, api.ErrShort
	}
	return best.order, api.OK
}

// judgeLeast goes through all reserves that make a difference.
func judgeLeast(all []candidate) (int, []int, api.Errno) {
	if len(all) == 0 {
		return 0, nil, api.ErrNone
	}
	least := all[0].taken
	for _, c := range all {
		least = min(least, c.taken)
	}
	order, e := judgeBest(all, least)
	return least, order, e
}

// given returns what flood.Times says of an order that can be, whatever the reserve is.
func given(h api.Harvest, order []int) ([]api.Flooded, api.Used) {
	l, u, _ := flood.Times(withReserve(h, api.MaxAmount), order)
	return l, u
}

// sizes bounds what harvests are made of.
type sizes struct{ beds, need, leak, work, rate, inlet int }

// few has so small numbers that all that can be true can be gone through.
func few() sizes { return sizes{beds: 4, need: 7, leak: 2, work: 3, rate: 5, inlet: 5} }

// great has numbers up to the limits.
func great() sizes {
	return sizes{beds: api.MaxBogs, need: api.MaxWater, leak: api.MaxLeak, work: api.MaxWorking, rate: api.MaxPipe, inlet: api.MaxPipe}
}

// plain has numbers as they are in an autumn.
func plain() sizes {
	return sizes{beds: 5, need: 1000, leak: 3, work: 200, rate: 100, inlet: 100}
}

// world makes valid harvests; the same ones for the same seed.
type world struct {
	*rand.Rand
	sizes
}

func newWorld(seed uint64, s sizes) world { return world{rand.New(rand.NewPCG(seed, 37)), s} }

func (r world) between(lo, hi int) int { return lo + r.IntN(hi-lo+1) }

// someSpan returns a span within 0 to most; many have a single number.
func (r world) someSpan(most int) api.Span {
	a, b := r.IntN(most+1), r.IntN(most+1)
	if r.IntN(3) == 0 {
		return one(a)
	}
	return span(min(a, b), max(a, b))
}

func (r world) someBog() api.Bog {
	b := api.Bog{Need: r.between(1, r.need), Leak: r.someSpan(r.leak)}
	for range api.MaxWinds {
		b.Work = append(b.Work, r.someSpan(r.work))
	}
	return b
}

func (r world) someHarvest() api.Harvest {
	h := api.Harvest{Inlet: r.between(1, r.inlet), Winds: r.between(1, 15)}
	// Few flumes leave no order, or a few.
	dry := r.IntN(4)
	for range r.between(1, r.beds) {
		h.Bogs = append(h.Bogs, r.someBog())
	}
	for range h.Bogs {
		var row []int
		for range h.Bogs {
			rate := r.between(1, r.rate)
			if r.IntN(5) < dry {
				rate = 0
			}
			row = append(row, rate)
		}
		h.Rates = append(h.Rates, row)
	}
	h.Reserve = r.between(r.need/3, r.need*2)
	return h
}

func (r world) someOrder(h api.Harvest) []int { return r.Perm(len(h.Bogs)) }

// eachWorld calls do with worlds of each size.
func eachWorld(do func(seed uint64, r world)) {
	for seed := range uint64(200) {
		do(seed, newWorld(seed, few()))
		do(seed, newWorld(seed, plain()))
		if seed%4 == 0 {
			do(seed, newWorld(seed, great()))
		}
	}
}

// eachSmall calls do with worlds in which all that can be true can be gone through.
func eachSmall(do func(seed uint64, r world)) {
	for seed := range uint64(500) {
		do(seed, newWorld(seed, few()))
	}
}
