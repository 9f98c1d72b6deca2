package spray

import (
	"math/bits"

	"fenberry/api"
)

// planner is what plans are made of: the bed of each job and the days on which it may be done, and how many jobs can be done on a day.
type planner struct {
	beds  []int
	days  [][]int
	crews int
}

func newPlanner(y yard, crews int) planner {
	p := planner{crews: crews}
	for job, j := range y.Jobs {
		p.beds = append(p.beds, j.Bed)
		p.days = append(p.days, y.days(job))
	}
	return p
}

// best returns the best plan, or false if there is none. Each plan that is found has to end ahead of the one before; the last one is the first in order of all that end as early.
func (p planner) best() (plan []int, found bool) {
	for limit := api.MaxDay; limit >= 0; limit = latest(plan) - 1 {
		earlier, ok := p.first(limit)
		if !ok {
			break
		}
		plan, found = earlier, true
	}
	return plan, found
}

// latest returns the latest day of a plan; 0 if it has none.
func latest(plan []int) int {
	last := 0
	for _, day := range plan {
		last = max(last, day)
	}
	return last
}

// first returns the first plan in order that ends on the day limit or ahead of it, or false if there is none.
func (p planner) first(limit int) ([]int, bool) {
	plan := make([]int, len(p.days))
	done := doneJobs{}
	// try gives a day to each job from this one on. If it cannot, it returns jobs ahead that are to blame: as long as all of them stay where they are, there is no way. So those that are not to blame need not try their other days, of which there may be too many.
	var try func(job int) (blame jobs, found bool)
	try = func(job int) (blame jobs, found bool) {
		if job == len(plan) {
			return 0, true
		}
	tries:
		for _, day := range p.days[job] {
			at := turn{p.beds[job], day}
			rivals := done.rivals(at, p.crews)
			switch {
			case day > limit:
				break tries
			case rivals != 0:
				blame |= rivals
				continue tries
			}
			plan[job], done[at] = day, job
			more, found := try(job + 1)
			if found {
				return 0, true
			}
			delete(done, at)
			if !more.has(job) {
				return more, false
			}
			blame |= more &^ only(job)
		}
		return blame, false
	}
	_, found := try(0)
	return plan, found
}

// turn is a day of a bed: only one job can be done then.
type turn struct{ bed, day int }

// doneJobs is the job that is done in each turn.
type doneJobs map[turn]int

// rivals returns the jobs that keep another one from being done in a turn: the one of the same bed, or those of all crews.
func (d doneJobs) rivals(at turn, crews int) jobs {
	if job, ok := d[at]; ok {
		return only(job)
	}
	var busy jobs
	for other, job := range d {
		if other.day == at.day {
			busy |= only(job)
		}
	}
	if busy.size() < crews {
		return 0
	}
	return busy
}

// jobs is a set of jobs, as bits.
type jobs uint8

// only returns the set of a single job.
func only(job int) jobs { return 1 << job }

func (s jobs) has(job int) bool { return s&only(job) != 0 }

func (s jobs) size() int { return bits.OnesCount8(uint8(s)) }
