package bloom_test

import (
	"math"
	"math/rand/v2"
	"slices"

	"fenberry/api"
)

func span(lo, hi int) api.Span { return api.Span{Lo: lo, Hi: hi} }

// example returns the bloom of the chapter's examples.
func example() api.Bloom {
	return api.Bloom{
		Days: 3, Moves: 2, Fee: 2,
		Colonies: []api.Colony{
			{Frames: span(10, 12), Price: 5, From: 0, To: 2},
			{Frames: span(6, 8), Price: 3, From: 0, To: 1},
			{Frames: span(8, 9), Price: 4, From: 1, To: 2},
		},
		Beds: []api.BloomBed{{From: 0, To: 1, Need: 10}, {From: 1, To: 2, Need: 8}},
	}
}

// cheapOne returns the cheapest plan of the example.
func cheapOne() [][]int { return [][]int{{0, -1, -1}, {0, -1, 1}, {-1, -1, 1}} }

// strangeNumbers are beyond limits, or at them.
func strangeNumbers() []int {
	return []int{math.MinInt, -2, -1, 0, 1, 2, 3, 4, 5, 14, 15, 256, 257, 4096, 4097, api.MaxFrames, api.MaxFrames + 1, api.MaxRent, api.MaxRent + 1, math.MaxInt}
}

func clone(x api.Bloom) api.Bloom {
	x.Colonies, x.Beds = slices.Clone(x.Colonies), slices.Clone(x.Beds)
	return x
}

func clonePlan(plan [][]int) [][]int {
	var l [][]int
	for _, row := range plan {
		l = append(l, slices.Clone(row))
	}
	return l
}

func sameBloom(a, b api.Bloom) bool {
	numbers := a.Days == b.Days && a.Moves == b.Moves && a.Fee == b.Fee
	return numbers && slices.Equal(a.Colonies, b.Colonies) && slices.Equal(a.Beds, b.Beds)
}

func samePlan(a, b [][]int) bool { return slices.EqualFunc(a, b, slices.Equal[[]int]) }

// without returns a copy of the plan with a colony Away on all days.
func without(plan [][]int, colony int) [][]int {
	l := clonePlan(plan)
	for _, row := range l {
		row[colony] = -1
	}
	return l
}

// verdict is what Check returns.
type verdict struct {
	cost, day int
	e         api.Errno
}

// judgeDay judges one day, as the chapter says it, with the places on the day before.
func judgeDay(x api.Bloom, day int, before, row []int) (cost int, e api.Errno) {
	moved, refused := 0, false
	sums := make([]int, len(x.Beds))
	for i, place := range row {
		if place < 0 {
			continue
		}
		c := x.Colonies[i]
		refused = refused || day < c.From || day > c.To
		sums[place] += c.Frames.Lo
		cost += c.Price
		if before[i] != place {
			moved++
			cost += x.Fee
		}
	}
	if refused {
		return 0, api.ErrRefuse
	}
	if moved > x.Moves {
		return 0, api.ErrLimit
	}
	for i, b := range x.Beds {
		if day >= b.From && day <= b.To && sums[i] < b.Need {
			return 0, api.ErrShort
		}
	}
	return cost, api.OK
}

// nobody returns the places of the day before the first one.
func nobody(x api.Bloom) []int { return slices.Repeat([]int{-1}, len(x.Colonies)) }

// judge judges a plan that has the form of one.
func judge(x api.Bloom, plan [][]int) verdict {
	sum, before := 0, nobody(x)
	for day, row := range plan {
		cost, e := judgeDay(x, day, before, row)
		if e != api.OK {
			return verdict{0, day, e}
		}
		sum += cost
		before = row
	}
	return verdict{sum, len(plan), api.OK}
}

// rows returns all rows of plans of so many colonies and beds.
func rows(colonies, beds int) [][]int {
	l := [][]int{nil}
	for range colonies {
		var longer [][]int
		for place := beds - 1; place >= -1; place-- {
			for _, row := range l {
				longer = append(longer, append(slices.Clone(row), place))
			}
		}
		l = longer
	}
	return l
}

// plans yields all plans of a bloom, good or not.
func plans(x api.Bloom) func(yield func([][]int) bool) {
	all := rows(len(x.Colonies), len(x.Beds))
	var grow func(plan [][]int, yield func([][]int) bool) bool
	grow = func(plan [][]int, yield func([][]int) bool) bool {
		if len(plan) == x.Days {
			return yield(plan)
		}
		for _, row := range all {
			if !grow(append(slices.Clone(plan), row), yield) {
				return false
			}
		}
		return true
	}
	return func(yield func([][]int) bool) { grow(nil, yield) }
}

// offer is the days of a plan until some day, and what they cost.
type offer struct {
	plan [][]int
	cost int
}

func (o offer) isBetter(than offer) bool {
	return o.cost < than.cost || o.cost == than.cost && slices.CompareFunc(o.plan, than.plan, slices.Compare[[]int]) < 0
}

// keepBetter keeps an offer unless there is a better one with this key.
func keepBetter[K comparable](m map[K]offer, key K, o offer) {
	if old, ok := m[key]; !ok || o.isBetter(old) {
		m[key] = o
	}
}

// answer returns what Cheapest has to return if the best plan is the one of the map, if any.
func answer(m map[bool]offer) (offer, api.Errno) {
	if best, ok := m[true]; ok {
		return best, api.OK
	}
	return offer{}, api.ErrNone
}

// bestOfAll tries all plans.
func bestOfAll(x api.Bloom) (offer, api.Errno) {
	best := map[bool]offer{}
	for plan := range plans(x) {
		if v := judge(x, plan); v.e == api.OK {
			keepBetter(best, true, offer{plan, v.cost})
		}
	}
	return answer(best)
}

// bestForward goes from the first day to the last one, and keeps the best plan for each place where the colonies can be in the end.
func bestForward(x api.Bloom) (offer, api.Errno) {
	key := func(row []int) (k [api.MaxColonies]int) {
		copy(k[:], row)
		return k
	}
	offers := map[[api.MaxColonies]int]offer{key(nobody(x)): {}}
	for day := range x.Days {
		next := map[[api.MaxColonies]int]offer{}
		for _, o := range offers {
			before := nobody(x)
			if day > 0 {
				before = o.plan[day-1]
			}
			for _, row := range rows(len(x.Colonies), len(x.Beds)) {
				if cost, e := judgeDay(x, day, before, row); e == api.OK {
					keepBetter(next, key(row), offer{append(slices.Clone(o.plan), row), o.cost + cost})
				}
			}
		}
		offers = next
	}
	best := map[bool]offer{}
	for _, o := range offers {
		keepBetter(best, true, o)
	}
	return answer(best)
}

// sizes bounds what worlds are made of.
type sizes struct{ days, colonies, beds, frames, rent int }

// few has numbers so small that all plans can be tried, and that many cost the same.
func few() sizes { return sizes{days: 3, colonies: 3, beds: 2, frames: 4, rent: 2} }

// wide has more places, but fewer days.
func wide() sizes {
	return sizes{days: 2, colonies: api.MaxColonies, beds: api.MaxBlooming, frames: 3, rent: 1}
}

// long has all days that a bloom can have.
func long() sizes {
	return sizes{days: api.MaxBloom, colonies: 3, beds: 2, frames: 4, rent: 3}
}

// great has numbers up to the limits.
func great() sizes {
	return sizes{days: api.MaxBloom, colonies: api.MaxColonies, beds: api.MaxBlooming, frames: api.MaxFrames, rent: api.MaxRent}
}

// world makes valid inspections, blooms and plans; the same ones for the same seed.
type world struct {
	*rand.Rand
	sizes
}

func newWorld(seed uint64, s sizes) world { return world{rand.New(rand.NewPCG(seed, 13)), s} }

func (r world) between(lo, hi int) int { return lo + r.IntN(hi-lo+1) }

func (r world) part(s api.Span) int { return r.between(s.Lo, s.Hi) }

func (r world) someSpan(lo, hi int) api.Span {
	a, b := r.between(lo, hi), r.between(lo, hi)
	return span(min(a, b), max(a, b))
}

// someInspection returns an inspection of few hives, and how many frames each of them has, those first that were seen.
func (r world) someInspection(hives int) (api.Inspection, []int) {
	bounds := r.someSpan(0, 6)
	x := api.Inspection{Hives: r.between(1, hives), Least: bounds.Lo, Most: bounds.Hi}
	var frames []int
	for hive := range x.Hives {
		s := bounds
		if hive < x.Hives/2 {
			s = r.someSpan(bounds.Lo, bounds.Hi)
			x.Seen = append(x.Seen, s)
		}
		frames = append(frames, r.part(s))
	}
	return x, frames
}

// someDays returns the first and the last day of something: often more than half of the bloom, sometimes none of it.
func (r world) someDays(days int) (from, to int) {
	from, to = r.between(-1, days/3), r.between(days/2, days)
	if r.IntN(9) == 0 {
		from, to = to, from
	}
	return from, to
}

func (r world) someBloom() api.Bloom {
	x := api.Bloom{Days: r.between(r.IntN(2), r.days), Moves: r.between(r.IntN(3), api.MaxColonies), Fee: r.IntN(r.rent + 1)}
	for range r.between(r.IntN(3), r.colonies) {
		c := api.Colony{Frames: r.someSpan(0, r.frames), Price: r.IntN(r.rent + 1)}
		if c.To = x.Days; r.IntN(2) == 0 {
			c.From, c.To = r.someDays(x.Days)
		}
		x.Colonies = append(x.Colonies, c)
	}
	for range r.between(min(1, r.IntN(9)), r.beds) {
		b := api.BloomBed{Need: r.between(min(1, r.IntN(9)), (r.frames+1)/2)}
		b.From, b.To = r.someDays(x.Days)
		x.Beds = append(x.Beds, b)
	}
	return x
}

// somePlan returns a plan that has the form of one, and in which colonies often stay where they are.
func (r world) somePlan(x api.Bloom) [][]int {
	var plan [][]int
	row := nobody(x)
	for range x.Days {
		row = slices.Clone(row)
		for i := range row {
			if r.IntN(3) == 0 {
				row[i] = r.between(-1, len(x.Beds)-1)
			}
		}
		plan = append(plan, row)
	}
	return plan
}

// change returns the plan with some of its places changed.
func (r world) change(x api.Bloom, plan [][]int) [][]int {
	l := clonePlan(plan)
	if x.Days == 0 || len(x.Colonies) == 0 {
		return l
	}
	for range r.between(1, 3) {
		colony, place := r.IntN(len(x.Colonies)), r.between(-1, len(x.Beds)-1)
		for day := r.IntN(x.Days); day < x.Days; day++ {
			l[day][colony] = place
			if r.IntN(2) == 0 {
				break
			}
		}
	}
	return l
}

// eachWorld calls do with worlds of each size.
func eachWorld(do func(seed uint64, r world)) {
	for seed := range uint64(300) {
		do(seed, newWorld(seed, few()))
		if seed%4 == 0 {
			do(seed, newWorld(seed, wide()))
			do(seed, newWorld(seed, long()))
		}
		if seed%6 == 0 {
			do(seed, newWorld(seed, great()))
		}
	}
}
