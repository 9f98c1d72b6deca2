package spray

import (
	"iter"

	"fenberry/api"
)

// yard is a valid yard.
type yard struct{ api.Yard }

// reasons returns the numbers of what keeps a job from being done on a day, rising.
func (y yard) reasons(job, day int) []int {
	j := y.Jobs[job]
	all := [...]func() bool{
		api.TooSoon: func() bool { return day < j.From },
		api.TooOld:  func() bool { return day > j.To },
		api.Waiting: func() bool { return day > y.deadline(j) },
	}
	var l []int
	for reason, holds := range all {
		if holds() {
			l = append(l, reason)
		}
	}
	for _, stand := range y.reached(job, day) {
		l = append(l, api.Reached+stand)
	}
	return l
}

// deadline returns the last day that is long enough ahead of the harvest; below 0 if there is none.
func (y yard) deadline(j api.Job) int {
	bed := y.Beds[j.Bed]
	return bed.Harvest - y.Products[j.Product].Wait[bed.Market]
}

// reached returns the stands that are reached by a job that is done on a day, rising.
func (y yard) reached(job, day int) []int {
	j := y.Jobs[job]
	bed, product := y.Beds[j.Bed], y.Products[j.Product]
	var l []int
	for i, s := range y.Stands {
		near := square(s.X-bed.X)+square(s.Y-bed.Y) <= square(product.Reach)
		if near && day <= s.To && s.From <= day+product.Stay {
			l = append(l, i)
		}
	}
	return l
}

func square(n int) int { return n * n }

// allowed yields the days that a job and its harvest allow, rising, each with the stands that are reached on it.
func (y yard) allowed(job int) iter.Seq2[int, []int] {
	return func(yield func(day int, stands []int) bool) {
		j := y.Jobs[job]
		for day := j.From; day <= min(j.To, y.deadline(j)); day++ {
			if !yield(day, y.reached(job, day)) {
				return
			}
		}
	}
}

// days returns the days on which a job may be done, rising.
func (y yard) days(job int) []int {
	var l []int
	for day, stands := range y.allowed(job) {
		if len(stands) == 0 {
			l = append(l, day)
		}
	}
	return l
}
