package spray_test

import (
	"math"
	"math/rand/v2"
	"slices"

	"fenberry/api"
)

func span(lo, hi int) api.Span { return api.Span{Lo: lo, Hi: hi} }

// example returns the yard of the chapter's examples.
func example() api.Yard {
	return api.Yard{
		Products: []api.Product{{Reach: 100, Stay: 2, Wait: []int{10, 30}, Uses: 2}},
		Beds:     []api.SprayBed{{Harvest: 100}, {X: 300, Harvest: 100, Market: 1}},
		Stands:   []api.Stand{{X: 60, Y: 80, From: 50, To: 60}, {X: 300, Y: 101, To: 99}},
		Jobs:     []api.Job{{From: 47, To: 63}, {Bed: 1, From: 60, To: 75}, {From: 61, To: 62}},
	}
}

// strangeNumbers are beyond limits, or at them.
func strangeNumbers() []int {
	return []int{math.MinInt, -2, -1, 0, 1, 2, 3, 8, 9, 16, 17, 30, 31, 40, 41, 365, 366, api.MaxDay, api.MaxDay + 1, api.MaxMetres, api.MaxMetres + 1, 1 << 40, math.MaxInt}
}

func clone(y api.Yard) api.Yard {
	y.Products, y.Beds, y.Stands, y.Jobs = slices.Clone(y.Products), slices.Clone(y.Beds), slices.Clone(y.Stands), slices.Clone(y.Jobs)
	for i := range y.Products {
		y.Products[i].Wait = slices.Clone(y.Products[i].Wait)
	}
	return y
}

func sameYard(a, b api.Yard) bool {
	products := slices.EqualFunc(a.Products, b.Products, func(p, q api.Product) bool {
		return p.Reach == q.Reach && p.Stay == q.Stay && slices.Equal(p.Wait, q.Wait) && p.Uses == q.Uses
	})
	return products && slices.Equal(a.Beds, b.Beds) && slices.Equal(a.Stands, b.Stands) && slices.Equal(a.Jobs, b.Jobs)
}

// judgeStand reports whether a job that is done on a day reaches a stand, as the chapter says it.
func judgeStand(y api.Yard, job, day, stand int) bool {
	j, s := y.Jobs[job], y.Stands[stand]
	p, b := y.Products[j.Product], y.Beds[j.Bed]
	common := false
	for d := day; d <= day+p.Stay; d++ {
		common = common || s.From <= d && d <= s.To
	}
	dx, dy := s.X-b.X, s.Y-b.Y
	return common && dx*dx+dy*dy <= p.Reach*p.Reach
}

// judgeStands returns the stands that are reached.
func judgeStands(y api.Yard, job, day int) []int {
	var l []int
	for stand := range y.Stands {
		if judgeStand(y, job, day, stand) {
			l = append(l, stand)
		}
	}
	return l
}

// judge returns why a job may not be done on a day, as the chapter says it.
func judge(y api.Yard, job, day int) []int {
	j := y.Jobs[job]
	bed := y.Beds[j.Bed]
	var l []int
	if day < j.From {
		l = append(l, 0)
	}
	if day > j.To {
		l = append(l, 1)
	}
	if day+y.Products[j.Product].Wait[bed.Market] > bed.Harvest {
		l = append(l, 2)
	}
	for _, stand := range judgeStands(y, job, day) {
		l = append(l, 3+stand)
	}
	return l
}

// judgeDays returns the days on which a job may be done, of all days.
func judgeDays(y api.Yard, job int) []int {
	var l []int
	for day := max(0, y.Jobs[job].From-2); day <= min(api.MaxDay, y.Jobs[job].To+2); day++ {
		if len(judge(y, job, day)) == 0 {
			l = append(l, day)
		}
	}
	return l
}

// isPlan reports whether each job has a day on which it may be done, no day more jobs than crews, and no bed two jobs on a day.
func isPlan(y api.Yard, crews int, plan []int) bool {
	if len(plan) != len(y.Jobs) {
		return false
	}
	for job, day := range plan {
		same := 0
		for other, d := range plan {
			if d == day {
				same++
			}
			if d == day && other != job && y.Jobs[job].Bed == y.Jobs[other].Bed {
				return false
			}
		}
		if same > crews || len(judge(y, job, day)) > 0 {
			return false
		}
	}
	return true
}

// ends returns the latest day of a plan.
func ends(plan []int) int { return slices.Max(append([]int{-1}, plan...)) }

// isBetter reports whether a plan is better than another one, as the chapter says it.
func isBetter(plan, than []int) bool {
	if ends(plan) != ends(than) {
		return ends(plan) < ends(than)
	}
	return slices.Compare(plan, than) < 0
}

// keepBetter keeps a plan unless there is a better one with this key.
func keepBetter[K comparable](m map[K][]int, key K, plan []int) {
	if old, ok := m[key]; !ok || isBetter(plan, old) {
		m[key] = plan
	}
}

// bestOfAll tries all days on which jobs may be done, with each other.
func bestOfAll(y api.Yard, crews int) ([]int, bool) {
	best := map[bool][]int{}
	var grow func(plan []int)
	grow = func(plan []int) {
		if len(plan) == len(y.Jobs) {
			if isPlan(y, crews, plan) {
				keepBetter(best, true, plan)
			}
			return
		}
		for _, day := range judgeDays(y, len(plan)) {
			grow(append(slices.Clone(plan), day))
		}
	}
	grow(nil)
	plan, ok := best[true]
	return plan, ok
}

// bestByDays goes from the last day to the first one, and keeps the best days for each set of jobs that are done by then (the others have the day -1).
func bestByDays(y api.Yard, crews int) ([]int, bool) {
	may := map[int][]int{} // the jobs that may be done on each day
	var days []int
	for job := range y.Jobs {
		for _, day := range judgeDays(y, job) {
			may[day] = append(may[day], job)
			days = append(days, day)
		}
	}
	slices.SortFunc(days, func(a, b int) int { return b - a })
	plans := map[int][]int{0: slices.Repeat([]int{-1}, len(y.Jobs))}
	for _, day := range slices.Compact(days) {
		next := map[int][]int{}
		for done, plan := range plans {
			for _, team := range teams(y, crews, may[day]) {
				mask, longer := 0, slices.Clone(plan)
				for _, job := range team {
					mask |= 1 << job
					longer[job] = day
				}
				if done&mask == 0 {
					keepBetter(next, done|mask, longer)
				}
			}
		}
		plans = next
	}
	plan, ok := plans[1<<len(y.Jobs)-1]
	return plan, ok
}

// teams returns all sets of some jobs that can be done on the same day.
func teams(y api.Yard, crews int, l []int) [][]int {
	all := [][]int{nil}
	for _, job := range l {
		for _, team := range all {
			if len(team) < crews && !slices.ContainsFunc(team, func(other int) bool { return y.Jobs[other].Bed == y.Jobs[job].Bed }) {
				all = append(all, append(slices.Clone(team), job))
			}
		}
	}
	return all
}

// sizes bounds what yards are made of.
type sizes struct{ products, beds, stands, jobs, metres, days, length int }

// few has so few days that all plans can be tried.
func few() sizes {
	return sizes{products: 2, beds: 2, stands: 2, jobs: 4, metres: 5, days: 8, length: 3}
}

// tight has many jobs in few days, and few stands.
func tight() sizes {
	return sizes{products: 4, beds: 4, stands: 2, jobs: api.MaxJobs, metres: 20, days: 12, length: 6}
}

// wide has all that a yard can have.
func wide() sizes {
	return sizes{products: api.MaxSprays, beds: api.MaxSprayBeds, stands: api.MaxStands, jobs: api.MaxJobs, metres: 30, days: 60, length: api.MaxJobDays}
}

// great has numbers up to the limits.
func great() sizes {
	return sizes{products: api.MaxSprays, beds: api.MaxSprayBeds, stands: api.MaxStands, jobs: api.MaxJobs, metres: api.MaxMetres, days: api.MaxDay, length: api.MaxJobDays}
}

// world makes valid yards and traps; the same ones for the same seed.
type world struct {
	*rand.Rand
	sizes
}

func newWorld(seed uint64, s sizes) world { return world{rand.New(rand.NewPCG(seed, 29)), s} }

func (r world) between(lo, hi int) int { return lo + r.IntN(hi-lo+1) }

func (r world) someSpan(lo, hi int) api.Span {
	a, b := r.between(lo, hi), r.between(lo, hi)
	return span(min(a, b), max(a, b))
}

func (r world) someProduct() api.Product {
	p := api.Product{Reach: r.IntN(r.metres*2/3 + 1), Stay: r.IntN(min(api.MaxStay, r.days/4) + 1), Uses: r.between(1, r.between(1, api.MaxUses))}
	for range r.between(r.IntN(2), api.MaxMarkets) {
		p.Wait = append(p.Wait, r.IntN(min(api.MaxWait, r.days/4)+1))
	}
	return p
}

// someJob returns a job that a yard may have, or false if it found none.
func (r world) someJob(y api.Yard) (api.Job, bool) {
	if len(y.Beds) == 0 || len(y.Products) == 0 {
		return api.Job{}, false
	}
	j := api.Job{Bed: r.IntN(len(y.Beds)), Product: r.IntN(len(y.Products))}
	j.From = r.IntN(r.days/2 + 1)
	j.To = min(r.days, j.From+r.between(r.IntN(r.length/2+1), r.length))
	uses := 0
	for _, other := range y.Jobs {
		if other.Bed == j.Bed && other.Product == j.Product {
			uses++
		}
	}
	p := y.Products[j.Product]
	return j, uses < p.Uses && y.Beds[j.Bed].Market < len(p.Wait)
}

func (r world) someYard() api.Yard {
	var y api.Yard
	for range r.between(min(1, r.IntN(9)), r.products) {
		y.Products = append(y.Products, r.someProduct())
	}
	for range r.between(min(1, r.IntN(9)), r.beds) {
		y.Beds = append(y.Beds, api.SprayBed{X: r.IntN(r.metres + 1), Y: r.IntN(r.metres + 1), Harvest: r.between(r.days*r.between(2, 5)/6, r.days), Market: r.IntN(r.between(1, api.MaxMarkets))})
	}
	for range r.IntN(r.stands + 1) {
		days := r.someSpan(0, r.days)
		if r.IntN(3) > 0 {
			days.Hi = min(days.Hi, days.Lo+r.days/5)
		}
		y.Stands = append(y.Stands, api.Stand{X: r.IntN(r.metres + 1), Y: r.IntN(r.metres + 1), From: days.Lo, To: days.Hi})
	}
	jobs := r.between(r.IntN(3), r.jobs)
	for range 4 * jobs {
		if j, ok := r.someJob(y); ok && len(y.Jobs) < jobs {
			y.Jobs = append(y.Jobs, j)
		}
	}
	return y
}

// someCrews returns a number of crews, often one.
func (r world) someCrews() int { return r.between(1, r.between(1, api.MaxCrews)) }

// someDays returns a day for each job, often one of its own.
func (r world) someDays(y api.Yard) []int {
	var l []int
	for _, j := range y.Jobs {
		day := r.between(j.From, j.To)
		if r.IntN(4) == 0 {
			day = r.IntN(r.days + 1)
		}
		l = append(l, day)
	}
	return l
}

func (r world) someTraps() []api.Trap {
	var l []api.Trap
	for range r.IntN(5) {
		l = append(l, api.Trap{Caught: r.IntN(r.between(1, 20)), Rate: r.someSpan(r.between(1, 300), api.Whole)})
	}
	return l
}

// eachWorld calls do with worlds of each size.
func eachWorld(do func(seed uint64, r world)) {
	for seed := range uint64(400) {
		do(seed, newWorld(seed, few()))
		do(seed, newWorld(seed, tight()))
		do(seed, newWorld(seed, wide()))
		if seed%4 == 0 {
			do(seed, newWorld(seed, great()))
		}
	}
}
