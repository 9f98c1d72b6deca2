package spray_test

import (
	"slices"
	"testing"

	"fenberry/api"
	"fenberry/spray"
)

// P5.8, P6: no hive stands where a spray of a plan reaches it; each job is done in its days, and long enough before the harvest; no day has more jobs than crews; no bed is sprayed twice on a day, or too often with a product.
func TestPlansAreGood(t *testing.T) {
	plans, reached := 0, 0
	eachWorld(func(seed uint64, r world) {
		y, crews := r.someYard(), r.someCrews()
		plan, e := spray.Plan(y, crews)
		if e != api.OK {
			return
		}
		if pairs, e := spray.Reach(y, plan); len(pairs) > 0 || e != api.OK || !isPlan(y, crews, plan) {
			t.Fatal(seed, y, crews, plan, pairs, e)
		}
		uses := map[api.Job]int{}
		for job, j := range y.Jobs {
			plans++
			uses[api.Job{Bed: j.Bed, Product: j.Product}]++
			if n := uses[api.Job{Bed: j.Bed, Product: j.Product}]; n > y.Products[j.Product].Uses {
				t.Fatal(seed, y, n)
			}
			if d, _ := spray.Days(y, job); !slices.Contains(d, plan[job]) {
				t.Fatal(seed, y, job, plan, d)
			}
			for day := j.From; day <= j.To; day++ {
				reached += len(judgeStands(y, job, day))
			}
		}
	})
	if min(plans, reached) < 500 {
		t.Error("too few", plans, reached)
	}
}

// P5.9: no other plan ends earlier, or as early and is before in order.
func TestNoPlanIsBetter(t *testing.T) {
	others := 0
	eachWorld(func(seed uint64, r world) {
		y, crews := r.someYard(), r.someCrews()
		best, e := spray.Plan(y, crews)
		for range 30 {
			plan := slices.Clone(best)
			if e != api.OK {
				plan = r.someDays(y)
			}
			for range min(len(plan), r.between(1, 2)) {
				job := r.IntN(len(plan))
				plan[job] = r.between(y.Jobs[job].From, y.Jobs[job].To)
			}
			if !isPlan(y, crews, plan) {
				continue
			}
			others++
			if e != api.OK || isBetter(plan, best) {
				t.Fatal(seed, y, crews, plan, best, e)
			}
		}
	})
	if others < 1000 {
		t.Error("too few", others)
	}
}

// endOf returns the latest day of the best plan; a day behind all others if there is none.
func endOf(y api.Yard, crews int) int {
	plan, e := spray.Plan(y, crews)
	if e != api.OK {
		return api.MaxDay + 1
	}
	return ends(plan)
}

// P5.9: with one stand less, one crew more, or a later harvest, a plan ends no later; with one job more it ends no earlier.
func TestEasierEndsNoLater(t *testing.T) {
	sooner := [4]int{}
	check := func(seed uint64, r world, y api.Yard, crews int) {
		end := endOf(y, crews)
		free, late, light := clone(y), clone(y), clone(y)
		if len(y.Stands) > 0 {
			i := r.IntN(len(y.Stands))
			free.Stands = slices.Delete(free.Stands, i, i+1)
		}
		if len(y.Beds) > 0 {
			b := &late.Beds[r.IntN(len(y.Beds))]
			b.Harvest = r.between(b.Harvest, api.MaxDay)
		}
		if len(y.Jobs) > 0 {
			i := r.IntN(len(y.Jobs))
			light.Jobs = slices.Delete(light.Jobs, i, i+1)
		}
		for i, other := range []int{endOf(free, crews), endOf(y, min(api.MaxCrews, crews+1)), endOf(late, crews), endOf(light, crews)} {
			if other > end {
				t.Fatal(seed, i, y, crews, end, other)
			}
			if other < end {
				sooner[i]++
			}
		}
	}
	eachWorld(func(seed uint64, r world) {
		check(seed, r, r.someYard(), r.someCrews())
		y := open()
		for range r.between(3, api.MaxJobs) {
			from := r.IntN(5)
			y.Jobs = append(y.Jobs, api.Job{Bed: r.IntN(8), From: from, To: r.between(from, 9)})
		}
		check(seed, r, y, r.between(1, 3))
	})
	if slices.Min(sooner[:]) < 20 {
		t.Error("too few", sooner)
	}
}

// P5.10: without the stands that Clear names the job may be done on that day; on no other day that is allowed otherwise fewer are reached; if a job has a day on which it may be done, Clear names none.
func TestClearIsEnough(t *testing.T) {
	named := 0
	eachWorld(func(seed uint64, r world) {
		y := r.someYard()
		for job := range y.Jobs {
			day, stands, e := spray.Clear(y, job)
			days, _ := spray.Days(y, job)
			if e == api.ErrNone && len(days) == 0 {
				continue
			}
			if e != api.OK || (len(days) > 0) != (len(stands) == 0) || len(days) > 0 && day != days[0] {
				t.Fatal(seed, y, job, day, stands, e, days)
			}
			named += len(stands)
			cleared := clone(y)
			for _, stand := range slices.Backward(stands) {
				cleared.Stands = slices.Delete(cleared.Stands, stand, stand+1)
			}
			expectReasons(t, "cleared", cleared, job, day, nil, api.OK)
			for d := y.Jobs[job].From; d <= y.Jobs[job].To; d++ {
				l, _ := spray.Reasons(y, job, d)
				if len(l) < len(stands) && !slices.Contains(l, api.Waiting) {
					t.Fatal(seed, y, job, day, stands, d, l)
				}
			}
		}
	})
	if named < 300 {
		t.Error("too few", named)
	}
}

// shuffle returns the yard with its products, beds and stands in another order, and for each stand its index in the old one.
func (r world) shuffle(y api.Yard) (api.Yard, []int) {
	products, beds, stands := r.Perm(len(y.Products)), r.Perm(len(y.Beds)), r.Perm(len(y.Stands))
	var z api.Yard
	for _, i := range products {
		z.Products = append(z.Products, y.Products[i])
	}
	for _, i := range beds {
		z.Beds = append(z.Beds, y.Beds[i])
	}
	for _, i := range stands {
		z.Stands = append(z.Stands, y.Stands[i])
	}
	for _, j := range y.Jobs {
		j.Bed, j.Product = slices.Index(beds, j.Bed), slices.Index(products, j.Product)
		z.Jobs = append(z.Jobs, j)
	}
	return z, stands
}

// P11: in which order the products, the beds and the stands are named makes no difference.
func TestInAnyOrder(t *testing.T) {
	eachWorld(func(seed uint64, r world) {
		y, crews := r.someYard(), r.someCrews()
		z, stands := r.shuffle(y)
		plan, e := spray.Plan(y, crews)
		expectPlan(t, "shuffled", z, crews, plan, e)
		for job := range y.Jobs {
			days, e := spray.Days(y, job)
			expectDays(t, "shuffled", z, job, days, e)
			day, l, e := spray.Clear(y, job)
			day2, l2, e2 := spray.Clear(z, job)
			for i, stand := range l2 {
				l2[i] = stands[stand]
			}
			slices.Sort(l2)
			if day != day2 || !slices.Equal(l, l2) || e != e2 {
				t.Error(job, day, l, e, day2, l2, e2)
			}
		}
		if t.Failed() {
			t.Fatal(seed, y)
		}
	})
}

// P11: in which order the jobs are named makes no difference to when a plan ends.
func TestJobsInAnyOrder(t *testing.T) {
	eachWorld(func(seed uint64, r world) {
		y, crews := r.someYard(), r.someCrews()
		z := clone(y)
		r.Shuffle(len(z.Jobs), func(i, k int) { z.Jobs[i], z.Jobs[k] = z.Jobs[k], z.Jobs[i] })
		if endOf(y, crews) != endOf(z, crews) {
			t.Fatal(seed, y, z, crews)
		}
	})
}

// R4: arguments are only read.
func TestArgumentsAreOnlyRead(t *testing.T) {
	eachWorld(func(seed uint64, r world) {
		y := r.someYard()
		days, traps := r.someDays(y), r.someTraps()
		y2, days2, traps2 := clone(y), slices.Clone(days), slices.Clone(traps)
		for job := range y.Jobs {
			spray.Reasons(y, job, days[job])
			spray.Days(y, job)
			spray.Clear(y, job)
		}
		spray.Plan(y, r.someCrews())
		spray.Reach(y, days)
		spray.Pests(traps)
		spray.Needed(traps, 5)
		if !sameYard(y, y2) || !slices.Equal(days, days2) || !slices.Equal(traps, traps2) {
			t.Fatal(seed, y, days, traps)
		}
	})
}

// R4: results are new: one that is changed changes no other one.
func TestResultsAreNew(t *testing.T) {
	y := example()
	y.Jobs[0] = api.Job{From: 55, To: 58}
	lists := func() [][]int {
		reasons, _ := spray.Reasons(y, 0, 55)
		days, _ := spray.Days(y, 1)
		plan, _ := spray.Plan(example(), 1)
		_, stands, _ := spray.Clear(y, 0)
		return [][]int{reasons, days, plan, stands}
	}
	first, second, want := lists(), lists(), lists()
	pairs, _ := spray.Reach(y, []int{50, 60, 61})
	again, _ := spray.Reach(y, []int{50, 60, 61})
	for i, l := range first {
		clear(l)
		if !slices.Equal(second[i], want[i]) || !slices.Equal(lists()[i], want[i]) {
			t.Error("shared", i, second[i], want[i])
		}
	}
	pairs[0] = [2]int{7, 7}
	if again[0] != [2]int{0, 0} {
		t.Error("shared", again)
	}
	expectDays(t, "once more", y, 1, []int{60, 61, 62, 63, 64, 65, 66, 67, 68, 69, 70}, api.OK)
	expectReach(t, "once more", y, []int{50, 60, 61}, [][2]int{{0, 0}}, api.OK)
}
