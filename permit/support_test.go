package permit_test

import (
	"math"
	"math/big"
	"math/rand/v2"
	"slices"
	"testing"

	"fenberry/api"
	"fenberry/permit"
)

func span(lo, hi int) api.Span { return api.Span{Lo: lo, Hi: hi} }

// exact returns the span of a number that is known.
func exact(n int) api.Span { return span(n, n) }

// exampleDischarges returns the discharges of the chapter's examples.
func exampleDischarges() []api.Discharge {
	return []api.Discharge{
		{Day: 10, Water: span(1000, 1200), Content: span(50, 60)},
		{Day: 12, Water: exact(500), Content: exact(100)},
		{Day: 15, Water: exact(2000), Content: span(30, 40)},
	}
}

// exampleRiver and exampleFlow are the waters of the chapter's examples.
func exampleRiver() api.Flow { return api.Flow{Water: span(1000, 2000), Warm: span(10000, 11000)} }

func exampleFlow() api.Flow { return api.Flow{Water: exact(500), Warm: exact(20000)} }

// examplePhosphorus returns the phosphorus of the chapter's examples.
func examplePhosphorus() api.Phosphorus {
	return api.Phosphorus{Before: span(1000, 1100), In: exact(500), Out: span(200, 300), Berries: span(40, 50), Content: span(10, 12)}
}

// lets returns a discharge of so many micrograms, from the least to the most.
func lets(day, least, most int) api.Discharge {
	return api.Discharge{Day: day, Water: span(least, most), Content: exact(1)}
}

// strangeNumbers are beyond limits, or at them.
func strangeNumbers() []int {
	return []int{math.MinInt, math.MinInt + 1, -2, -1, 0, 1, 2, 63, 64, 366, 367, 1000, 1001, 1 << 14, 1<<14 + 1, 40000, 40001, 100000, 100001, 1 << 30, 1<<30 + 1, 1 << 40, 1<<40 + 1, 1 << 56, 1<<56 + 1, math.MaxInt - 1, math.MaxInt}
}

func expectPassed(t *testing.T, name string, l []api.Discharge, days, limit, wantSurely, wantPerhaps int, wantError api.Errno) {
	t.Helper()
	if surely, perhaps, e := permit.Passed(l, days, limit); surely != wantSurely || perhaps != wantPerhaps || e != wantError {
		t.Error(name, l, days, limit, surely, perhaps, e, "instead of", wantSurely, wantPerhaps, wantError)
	}
}

func expectAllow(t *testing.T, name string, l []api.Discharge, days, limit, day, want int, wantError api.Errno) {
	t.Helper()
	if n, e := permit.Allow(l, days, limit, day); n != want || e != wantError {
		t.Error(name, l, days, limit, day, n, e, "instead of", want, wantError)
	}
}

func expectMix(t *testing.T, name string, a, b api.Flow, want api.Span, wantError api.Errno) {
	t.Helper()
	if s, e := permit.Mix(a, b); s != want || e != wantError {
		t.Error(name, a, b, s, e, "instead of", want, wantError)
	}
	if s, e := permit.Mix(b, a); s != want || e != wantError {
		t.Error(name, b, a, s, e, "instead of", want, wantError)
	}
}

func expectMost(t *testing.T, name string, river api.Flow, warm api.Span, limit, want int, wantError api.Errno) {
	t.Helper()
	if n, e := permit.Most(river, warm, limit); n != want || e != wantError {
		t.Error(name, river, warm, limit, n, e, "instead of", want, wantError)
	}
}

// waiting is what is asked for with Schedule.
type waiting struct {
	loads                        []int
	nests                        []api.Nest
	reach, days, limit, from, to int
}

func (w waiting) schedule() ([]int, api.Errno) {
	return permit.Schedule(w.loads, w.nests, w.reach, w.days, w.limit, w.from, w.to)
}

// exampleWaiting returns the loads and the nest of the chapter's examples.
func exampleWaiting() waiting {
	return waiting{loads: []int{60, 60, 60}, nests: []api.Nest{{Reach: 4, From: 8, To: 9}}, reach: 4, days: 3, limit: 100, from: 5, to: 20}
}

func expectSchedule(t *testing.T, name string, w waiting, want []int, wantError api.Errno) {
	t.Helper()
	if l, e := w.schedule(); !slices.Equal(l, want) || e != wantError {
		t.Error(name, w, l, e, "instead of", want, wantError)
	}
}

func expectBalance(t *testing.T, name string, x api.Phosphorus, wantLeft, wantBerries api.Span, wantError api.Errno) {
	t.Helper()
	if left, berries, e := permit.Balance(x); left != wantLeft || berries != wantBerries || e != wantError {
		t.Error(name, x, left, berries, e, "instead of", wantLeft, wantBerries, wantError)
	}
}

// big64 returns a number of any size.
func big64(n int) *big.Int { return big.NewInt(int64(n)) }

// product returns a times b, of any size.
func product(a, b int) *big.Int { return new(big.Int).Mul(big64(a), big64(b)) }

// total returns a sum of any size.
func total(l ...*big.Int) *big.Int {
	n := new(big.Int)
	for _, x := range l {
		n.Add(n, x)
	}
	return n
}

// loadOn returns the loads of all discharges from a day to another one, of the Los and of the His.
func loadOn(l []api.Discharge, from, to int) (lo, hi int) {
	for _, d := range l {
		if d.Day >= from && d.Day <= to {
			lo += int(product(d.Water.Lo, d.Content.Lo).Int64())
			hi += int(product(d.Water.Hi, d.Content.Hi).Int64())
		}
	}
	return lo, hi
}

// judgePassed goes through all days on which a window with a discharge can end.
func judgePassed(l []api.Discharge, days, limit int) (surely, perhaps int, e api.Errno) {
	surely, perhaps = -1, -1
	for last := 0; last <= 1<<14+days; last++ {
		lo, hi := loadOn(l, last-days+1, last)
		if lo > limit && surely < 0 {
			surely = last
		}
		if hi > limit && perhaps < 0 {
			perhaps = last
		}
	}
	if perhaps < 0 {
		return 0, 0, api.ErrNone
	}
	return surely, perhaps, api.OK
}

// judgeAllow goes through all windows with a day.
func judgeAllow(l []api.Discharge, days, limit, day int) (int, api.Errno) {
	left := limit
	for first := day - days + 1; first <= day; first++ {
		_, hi := loadOn(l, first, first+days-1)
		left = min(left, limit-hi)
	}
	if left < 0 {
		return 0, api.ErrLimit
	}
	return left, api.OK
}

// warmth returns how warm two waters are together, with numbers of any size.
func warmth(waterA, warmA, waterB, warmB int) *big.Rat {
	return new(big.Rat).SetFrac(total(product(waterA, warmA), product(waterB, warmB)), total(big64(waterA), big64(waterB)))
}

// down and up round a number that is not below 0.
func down(r *big.Rat) int { return int(new(big.Int).Div(r.Num(), r.Denom()).Int64()) }

func up(r *big.Rat) int {
	n := new(big.Int).Sub(r.Denom(), big64(1))
	return int(n.Add(n, r.Num()).Div(n, r.Denom()).Int64())
}

// all calls do with each number of a span.
func all(s api.Span, do func(n int)) {
	for n := s.Lo; n <= s.Hi; n++ {
		do(n)
	}
}

// isCool reports whether water leaves the river with at most the limit.
func isCool(water, warm, more, moreWarm, limit int) bool {
	heat := total(product(water, warm), product(more, moreWarm))
	return heat.Cmp(total(product(limit, water), product(limit, more))) <= 0
}

// isFree reports whether there is no nest in the reach on a day.
func (w waiting) isFree(day int) bool {
	return !slices.ContainsFunc(w.nests, func(n api.Nest) bool { return n.Reach == w.reach && n.From <= day && day <= n.To })
}

// isSchedule reports whether days are a schedule for the first loads, window by window.
func (w waiting) isSchedule(l []int) bool {
	for i, day := range l {
		if day < w.from || day > w.to || i > 0 && day <= l[i-1] || !w.isFree(day) {
			return false
		}
		all := new(big.Int)
		for k, other := range l {
			if other >= day && other < day+w.days {
				all.Add(all, big64(w.loads[k]))
			}
		}
		if all.Cmp(big64(w.limit)) > 0 {
			return false
		}
	}
	return true
}

// eachSchedule calls do with all schedules in lexicographic order.
func (w waiting) eachSchedule(do func(l []int)) {
	var l []int
	var next func()
	next = func() {
		if len(l) == len(w.loads) {
			do(l)
			return
		}
		for day := w.from; day <= w.to; day++ {
			l = append(l, day)
			if w.isSchedule(l) {
				next()
			}
			l = l[:len(l)-1]
		}
	}
	next()
}

// judgeSchedule pushes each load to a later day until nothing is in its way, ahead of all days on which it cannot go.
func judgeSchedule(w waiting) ([]int, api.Errno) {
	l := make([]int, len(w.loads))
	for i := range l {
		least := w.from
		if i > 0 {
			least = max(least, l[i-1]+1)
		}
		all := new(big.Int)
		for k := i; k >= 0; k-- {
			if all.Add(all, big64(w.loads[k])).Cmp(big64(w.limit)) <= 0 {
				continue
			}
			if k == i {
				return nil, api.ErrNone
			}
			least = max(least, l[k]+w.days)
		}
		for !w.isFree(least) {
			least++
		}
		l[i] = least
		if least > w.to {
			return nil, api.ErrNone
		}
	}
	return l, api.OK
}

// judgeBalance is the balance with numbers of any size.
func judgeBalance(x api.Phosphorus) (left, berries api.Span, e api.Errno) {
	lo, hi := product(x.Berries.Lo, x.Content.Lo), product(x.Berries.Hi, x.Content.Hi)
	most := total(big64(x.Before.Hi), big64(x.In.Hi), big64(-x.Out.Lo), new(big.Int).Neg(lo))
	least := total(big64(x.Before.Lo), big64(x.In.Lo), big64(-x.Out.Hi), new(big.Int).Neg(hi))
	if most.Sign() < 0 {
		return api.Span{}, api.Span{}, api.ErrNone
	}
	if least.Sign() < 0 {
		least.SetInt64(0)
	}
	return span(int(least.Int64()), int(most.Int64())), span(int(lo.Int64()), int(hi.Int64())), api.OK
}

// sizes bounds what is made: days, how many things there are, litres, contents, warmth, and waiting loads.
type sizes struct{ day, many, water, content, warm, loads int }

// few has so small numbers that all that can be true can be gone through.
func few() sizes { return sizes{day: 12, many: 5, water: 4, content: 3, warm: 5, loads: 4} }

// plain has numbers as they are on a river.
func plain() sizes {
	return sizes{day: 400, many: 30, water: 1 << 20, content: 500, warm: 30000, loads: 20}
}

// great has numbers up to the limits.
func great() sizes {
	return sizes{day: api.MaxDay, many: 64, water: api.MaxLet, content: api.MaxContent, warm: api.MaxWarm, loads: 64}
}

// world makes valid arguments; the same ones for the same seed.
type world struct {
	*rand.Rand
	sizes
}

func newWorld(seed uint64, s sizes) world { return world{rand.New(rand.NewPCG(seed, 61)), s} }

func (r world) between(lo, hi int) int { return lo + r.IntN(hi-lo+1) }

// upTo returns a number from 0 to most, of which some are at the ends.
func (r world) upTo(most int) int {
	switch r.IntN(8) {
	case 0:
		return 0
	case 1:
		return most
	}
	return r.between(0, most)
}

// someSpan returns a span from 0 to most; some are known exactly.
func (r world) someSpan(most int) api.Span {
	a, b := r.upTo(most), r.upTo(most)
	if r.IntN(4) == 0 {
		return exact(a)
	}
	return span(min(a, b), max(a, b))
}

// inside returns a number of a span.
func (r world) inside(s api.Span) int { return s.Lo + r.upTo(s.Hi-s.Lo) }

// narrower returns a span within another one.
func (r world) narrower(s api.Span) api.Span {
	a, b := r.inside(s), r.inside(s)
	return span(min(a, b), max(a, b))
}

func (r world) someDays() int { return r.between(1, min(api.MaxWindow, r.day/2)) }

func (r world) someDischarges() []api.Discharge {
	var l []api.Discharge
	for range r.upTo(r.many) {
		l = append(l, api.Discharge{Day: r.upTo(r.day), Water: r.someSpan(r.water), Content: r.someSpan(r.content)})
	}
	return l
}

// someLimit returns a limit, often about the load of some window.
func (r world) someLimit(l []api.Discharge, days int) int {
	if len(l) == 0 || r.IntN(8) == 0 {
		return r.upTo(api.MaxLoad)
	}
	last := l[r.IntN(len(l))].Day
	lo, hi := loadOn(l, last-days+1, last)
	if r.IntN(2) == 0 {
		return max(0, []int{lo, hi}[r.IntN(2)]-r.IntN(2))
	}
	return r.between(0, hi+hi/4)
}

func (r world) someFlow() api.Flow {
	return api.Flow{Water: r.someSpan(r.water), Warm: r.someSpan(r.warm)}
}

func (r world) someWaiting() waiting {
	w := waiting{days: r.someDays(), from: r.between(0, r.day/2), reach: r.IntN(3)}
	w.limit = r.between(0, 2*r.water)
	for range r.upTo(r.loads) {
		load := r.between(0, w.limit)
		if r.IntN(2) == 0 {
			load = r.between(0, w.limit/3)
		}
		w.loads = append(w.loads, load)
	}
	for range r.IntN(min(r.many, api.MaxNests)) {
		from := r.between(0, r.day)
		w.nests = append(w.nests, api.Nest{Reach: r.IntN(3), From: from, To: min(r.day, from+r.IntN(r.day/5))})
	}
	w.to = r.between(w.from, r.day)
	// Often the last day is just late enough, or not.
	late := w
	late.to = r.day
	if l, e := judgeSchedule(late); e == api.OK && len(l) > 0 && r.IntN(2) == 0 {
		w.to = max(0, l[len(l)-1]-r.IntN(2))
	}
	return w
}

func (r world) somePhosphorus() api.Phosphorus {
	x := api.Phosphorus{Berries: r.someSpan(r.water), Content: r.someSpan(min(r.content, 1000))}
	most := max(1, min(api.MaxAmount, x.Berries.Hi*x.Content.Hi*3/2))
	x.Before, x.In, x.Out = r.someSpan(most), r.someSpan(most), r.someSpan(most)
	return x
}

// each calls do with so many worlds of each size.
func each(n int, l []sizes, do func(seed uint64, r world)) {
	for seed := range uint64(n) {
		for _, s := range l {
			do(seed, newWorld(seed, s))
		}
	}
}

// eachWorld calls do with worlds of each size.
func eachWorld(do func(seed uint64, r world)) { each(200, []sizes{few(), plain(), great()}, do) }

// eachSmall calls do with worlds in which all that can be true can be gone through.
func eachSmall(do func(seed uint64, r world)) { each(600, []sizes{few()}, do) }
