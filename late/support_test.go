package late_test

import (
	"math"
	"math/rand/v2"
	"slices"

	"fenberry/api"
)

func span(lo, hi int) api.Span { return api.Span{Lo: lo, Hi: hi} }

// example returns the forecast of the chapter's examples.
func example() api.Late {
	cool, mild := span(1500, 1700), span(2000, 2200)
	return api.Late{
		Warm: []api.Span{cool, cool, cool, mild, mild, mild},
		Air:  slices.Repeat([]api.Span{span(500, 600)}, 6),
		Rate: span(100, 120), First: span(8000, 8500), Fresh: span(9000, 9000), Full: 10000,
		Base: 1000, Kill: 2000, Need: 5000, Bear: 1,
	}
}

// still returns a forecast of so many days on which nothing comes and nothing is used, and no weeds suffer.
func still(days int) api.Late {
	return api.Late{Warm: make([]api.Span, days), Air: make([]api.Span, days)}
}

// strangeNumbers are beyond limits, or at them.
func strangeNumbers() []int {
	return []int{math.MinInt, math.MinInt + 1, -2, -1, 0, 1, 2, 5, 6, 7, 12, 13, 40, 41, 63, 64, 65, 1 << 40, math.MaxInt - 1, math.MaxInt}
}

func clone(l api.Late) api.Late {
	l.Warm, l.Air = slices.Clone(l.Warm), slices.Clone(l.Air)
	return l
}

func sameForecast(a, b api.Late) bool {
	if !slices.Equal(a.Warm, b.Warm) || !slices.Equal(a.Air, b.Air) || a.Rate != b.Rate || a.First != b.First || a.Fresh != b.Fresh {
		return false
	}
	return a.Full == b.Full && a.Base == b.Base && a.Kill == b.Kill && a.Need == b.Need && a.Bear == b.Bear
}

// standing is what can be true at the end of a day: the oxygen, and on how many days the vines have suffered.
type standing struct{ oxygen, suffered int }

// judgeUsed returns how much can be used on a day with a warmth, as the chapter says it.
func judgeUsed(l api.Late, warmth int) api.Span {
	lo, hi := l.Rate.Lo*warmth, l.Rate.Hi*warmth
	s := span(lo/100, hi/100)
	if hi%100 > 0 {
		s.Hi++
	}
	return s
}

// judgeStanding returns what there is behind a day, if so much came and so much was used, as the chapter says it.
func judgeStanding(l api.Late, s standing, air, used int) standing {
	s.oxygen += air - used
	if s.oxygen < 0 {
		s.oxygen = 0
	}
	if s.oxygen > l.Full {
		s.oxygen = l.Full
	}
	if s.oxygen < l.Need {
		s.suffered++
	}
	return s
}

// judgeCourse goes through all that can be true, number by number, and returns what can be true at the end of each day.
func judgeCourse(l api.Late, start, days int, fresh []int) []map[standing]bool {
	now := map[standing]bool{}
	for first := l.First.Lo; first <= l.First.Hi; first++ {
		now[standing{oxygen: first}] = true
	}
	var course []map[standing]bool
	for day := start; day < start+days; day++ {
		if slices.Contains(fresh, day) {
			now = judgeFreshened(l, now)
		}
		next := map[standing]bool{}
		for s := range now {
			for air := l.Air[day].Lo; air <= l.Air[day].Hi; air++ {
				for used := range judgeAllUsed(l, day) {
					next[judgeStanding(l, s, air, used)] = true
				}
			}
		}
		course, now = append(course, next), next
	}
	return course
}

func judgeFreshened(l api.Late, now map[standing]bool) map[standing]bool {
	next := map[standing]bool{}
	for s := range now {
		for fresh := l.Fresh.Lo; fresh <= l.Fresh.Hi; fresh++ {
			next[standing{fresh, s.suffered}] = true
		}
	}
	return next
}

// judgeAllUsed returns all numbers that can be used on a day.
func judgeAllUsed(l api.Late, day int) map[int]bool {
	all := map[int]bool{}
	for w := l.Warm[day].Lo; w <= l.Warm[day].Hi; w++ {
		for used := judgeUsed(l, w).Lo; used <= judgeUsed(l, w).Hi; used++ {
			all[used] = true
		}
	}
	return all
}

// judgeOxygen returns the least and the greatest number of each day of a course.
func judgeOxygen(course []map[standing]bool) []api.Span {
	var spans []api.Span
	for _, day := range course {
		var oxygen []int
		for s := range day {
			oxygen = append(oxygen, s.oxygen)
		}
		spans = append(spans, span(slices.Min(oxygen), slices.Max(oxygen)))
	}
	return spans
}

// judgeWeeds returns all numbers by which the weeds can have suffered.
func judgeWeeds(l api.Late, start, days int) map[int]bool {
	now := map[int]bool{0: true}
	for day := start; day < start+days; day++ {
		next := map[int]bool{}
		for sum := range now {
			for w := l.Warm[day].Lo; w <= l.Warm[day].Hi; w++ {
				if w > l.Base {
					next[sum+w-l.Base] = true
				} else {
					next[sum] = true
				}
			}
		}
		now = next
	}
	return now
}

// judgeSure returns how sure something is that holds for some of all cases, and does not hold for others.
func judgeSure(holds, fails bool) int {
	switch {
	case !fails:
		return 2
	case !holds:
		return 0
	}
	return 1
}

// judgeDead returns how sure it is that the weeds are dead.
func judgeDead(l api.Late, start, days int) int {
	var dead, alive bool
	for sum := range judgeWeeds(l, start, days) {
		dead, alive = dead || sum >= l.Kill, alive || sum < l.Kill
	}
	return judgeSure(dead, alive)
}

// judgeHurt returns how sure it is that the vines are hurt.
func judgeHurt(l api.Late, start, days int, fresh []int) int {
	course := judgeCourse(l, start, days, fresh)
	if len(course) == 0 {
		return 0
	}
	var hurt, well bool
	for s := range course[len(course)-1] {
		hurt, well = hurt || s.suffered > l.Bear, well || s.suffered <= l.Bear
	}
	return judgeSure(hurt, well)
}

// allLists returns all strictly rising lists of the days of a flood, the shorter ones first, and those of one length in lexicographic order.
func allLists(start, days int) [][]int {
	lists := [][]int{nil}
	for day := start; day < start+days; day++ {
		for _, l := range lists {
			lists = append(lists, append(slices.Clone(l), day))
		}
	}
	slices.SortFunc(lists, func(a, b []int) int {
		if len(a) != len(b) {
			return len(a) - len(b)
		}
		return slices.Compare(a, b)
	})
	return lists
}

// sizes bounds what forecasts are made of.
type sizes struct{ days, warmth, oxygen, rate, wide int }

// few has so small numbers that all that can be true can be gone through.
func few() sizes { return sizes{days: 5, warmth: 40, oxygen: 12, rate: 30, wide: 4} }

// great has numbers up to the limits.
func great() sizes {
	return sizes{days: api.MaxLateDays, warmth: api.MaxWarmth, oxygen: api.MaxOxygen, rate: api.MaxRate, wide: api.MaxOxygen}
}

// plain has numbers as they are in a spring.
func plain() sizes { return sizes{days: 20, warmth: 2500, oxygen: 12000, rate: 120, wide: 300} }

// world makes valid forecasts; the same ones for the same seed.
type world struct {
	*rand.Rand
	sizes
}

func newWorld(seed uint64, s sizes) world { return world{rand.New(rand.NewPCG(seed, 31)), s} }

func (r world) between(lo, hi int) int { return lo + r.IntN(hi-lo+1) }

// someSpan returns a span within lo to hi, not wider than wide.
func (r world) someSpan(lo, hi int) api.Span {
	a := r.between(lo, hi)
	return span(a, min(hi, a+r.IntN(r.wide+1)))
}

func (r world) someForecast() api.Late {
	l := api.Late{Full: r.between(r.oxygen/2, r.oxygen)}
	for range r.between(min(r.IntN(5), r.days), r.days) {
		l.Warm = append(l.Warm, r.someSpan(r.warmth/2*r.IntN(2), r.warmth))
		l.Air = append(l.Air, r.someSpan(0, r.oxygen/r.between(2, 6)))
	}
	l.Rate = r.someSpan(r.rate/2, r.rate)
	l.First, l.Fresh = r.someSpan(l.Full*r.IntN(3)/3, l.Full), r.someSpan(l.Full*r.IntN(4)/4, l.Full)
	l.Base = r.IntN(r.warmth + 1)
	l.Kill = r.IntN(min(api.MaxKill, r.warmth*r.between(1, 4)) + 1)
	l.Need = r.IntN(l.Full + 1)
	l.Bear = r.IntN(min(api.MaxLateDays, len(l.Warm)/2+1) + 1)
	return l
}

// someFlood returns a flood of a forecast.
func (r world) someFlood(l api.Late) (start, days int) {
	start = r.IntN(len(l.Warm) + 1)
	if r.IntN(2) == 0 {
		start /= 2
	}
	return start, r.between(r.IntN(len(l.Warm)-start+1), len(l.Warm)-start)
}

// someFresh returns fresh days of a flood.
func (r world) someFresh(start, days int) []int {
	var l []int
	rare := r.between(1, 5)
	for day := start; day < start+days; day++ {
		if r.IntN(rare+1) == 0 {
			l = append(l, day)
		}
	}
	return l
}

// eachWorld calls do with worlds of each size.
func eachWorld(do func(seed uint64, r world)) {
	for seed := range uint64(600) {
		do(seed, newWorld(seed, few()))
		do(seed, newWorld(seed, plain()))
		do(seed, newWorld(seed, great()))
	}
}

// eachSmall calls do with worlds in which all that can be true can be gone through.
func eachSmall(do func(seed uint64, r world)) {
	for seed := range uint64(800) {
		do(seed, newWorld(seed, few()))
	}
}
