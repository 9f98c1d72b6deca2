package spray_test

import (
	"math"
	"slices"
	"testing"

	"fenberry/api"
	"fenberry/spray"
)

// allTake checks that all functions take a yard, or that each of them returns ErrArg, also if its other arguments are beyond their ranges.
func allTake(t *testing.T, name string, valid bool, y api.Yard) {
	t.Helper()
	for _, n := range []int{0, -1, 1 << 30} {
		days := slices.Repeat([]int{n}, len(y.Jobs))
		l1, e1 := spray.Reasons(y, n, n)
		l2, e2 := spray.Days(y, n)
		l3, e3 := spray.Plan(y, n+1)
		day, l4, e4 := spray.Clear(y, n)
		l5, e5 := spray.Reach(y, days)
		for i, e := range []api.Errno{e1, e2, e3, e4, e5} {
			if valid != (e != api.ErrArg) {
				t.Error(name, i, n, e)
			}
		}
		if !valid && (len(l1)+len(l2)+len(l3)+len(l4)+len(l5) > 0 || day != 0) {
			t.Error(name, l1, l2, l3, day, l4, l5)
		}
	}
}

// numbers checks that all functions take the example with a number changed, or that none does.
func numbers(t *testing.T, name string, field func(y *api.Yard) *int, valid bool, values ...int) {
	t.Helper()
	for _, n := range values {
		y := example()
		*field(&y) = n
		allTake(t, name, valid, y)
	}
}

func TestProducts(t *testing.T) {
	reach := func(y *api.Yard) *int { return &y.Products[0].Reach }
	numbers(t, "reach", reach, true, 0, 1, api.MaxMetres)
	numbers(t, "reach", reach, false, math.MinInt, -1, api.MaxMetres+1, math.MaxInt)
	stay := func(y *api.Yard) *int { return &y.Products[0].Stay }
	numbers(t, "stay", stay, true, 0, 1, 30)
	numbers(t, "stay", stay, false, math.MinInt, -1, 31, math.MaxInt)
	uses := func(y *api.Yard) *int { return &y.Products[0].Uses }
	numbers(t, "uses", uses, true, 2, 3, 16)
	numbers(t, "uses", uses, false, math.MinInt, -1, 0, 1, 17, math.MaxInt)
	for i := range 2 {
		wait := func(y *api.Yard) *int { return &y.Products[0].Wait[i] }
		numbers(t, "wait", wait, true, 0, 1, 365)
		numbers(t, "wait", wait, false, math.MinInt, -1, 366, math.MaxInt)
	}
	for n, valid := range []bool{false, false, true, true, true, true, true, true, true, false, false} {
		y := example()
		y.Products[0].Wait = make([]int, n)
		allTake(t, "waits", valid, y)
	}
	spare := func(p api.Product) api.Yard {
		y := example()
		y.Products = append(y.Products, p)
		return y
	}
	allTake(t, "without a market", true, spare(api.Product{Uses: 1}))
	allTake(t, "without a use", false, spare(api.Product{}))
	allTake(t, "too many uses", false, spare(api.Product{Uses: 17}))
}

func TestBeds(t *testing.T) {
	for i := range 2 {
		for _, metres := range []func(y *api.Yard) *int{func(y *api.Yard) *int { return &y.Beds[i].X }, func(y *api.Yard) *int { return &y.Beds[i].Y }} {
			numbers(t, "bed", metres, true, 0, 1, api.MaxMetres)
			numbers(t, "bed", metres, false, math.MinInt, -1, api.MaxMetres+1, math.MaxInt)
		}
		harvest := func(y *api.Yard) *int { return &y.Beds[i].Harvest }
		numbers(t, "harvest", harvest, true, 0, 1, api.MaxDay)
		numbers(t, "harvest", harvest, false, math.MinInt, -1, api.MaxDay+1, math.MaxInt)
		market := func(y *api.Yard) *int { return &y.Beds[i].Market }
		numbers(t, "market", market, true, 0, 1)
		numbers(t, "market for which there is no wait", market, false, 2, 3, 7)
		numbers(t, "market", market, false, math.MinInt, -1, 8, math.MaxInt)
	}
	y := example()
	y.Beds = append(y.Beds, api.SprayBed{Market: 7})
	allTake(t, "a bed of which there is no job", true, y)
	y.Beds[2].Market = 8
	allTake(t, "no market", false, y)
}

func TestStands(t *testing.T) {
	for i := range 2 {
		for _, metres := range []func(y *api.Yard) *int{func(y *api.Yard) *int { return &y.Stands[i].X }, func(y *api.Yard) *int { return &y.Stands[i].Y }} {
			numbers(t, "stand", metres, true, 0, 1, api.MaxMetres)
			numbers(t, "stand", metres, false, math.MinInt, -1, api.MaxMetres+1, math.MaxInt)
		}
		from := func(y *api.Yard) *int { return &y.Stands[i].From }
		numbers(t, "from", from, true, 0, 1, 59, 60)
		numbers(t, "from", from, false, math.MinInt, -1, 100, api.MaxDay, api.MaxDay+1, math.MaxInt)
		to := func(y *api.Yard) *int { return &y.Stands[i].To }
		numbers(t, "to", to, true, 50, 51, api.MaxDay)
		numbers(t, "to", to, false, math.MinInt, -1, api.MaxDay+1, math.MaxInt)
	}
	numbers(t, "behind to", func(y *api.Yard) *int { return &y.Stands[0].From }, false, 61, 62)
	numbers(t, "ahead of from", func(y *api.Yard) *int { return &y.Stands[0].To }, false, 49, 0)
}

func TestJobs(t *testing.T) {
	bed := func(y *api.Yard) *int { return &y.Jobs[1].Bed }
	numbers(t, "bed", bed, true, 1)
	numbers(t, "bed that has enough", bed, false, 0)
	numbers(t, "bed", bed, false, math.MinInt, -1, 2, 3, math.MaxInt)
	product := func(y *api.Yard) *int { return &y.Jobs[1].Product }
	numbers(t, "product", product, true, 0)
	numbers(t, "product", product, false, math.MinInt, -1, 1, 2, math.MaxInt)
	from := func(y *api.Yard) *int { return &y.Jobs[0].From }
	numbers(t, "from", from, true, 23, 24, 62, 63)
	numbers(t, "from", from, false, math.MinInt, -1, 0, 22, 64, api.MaxDay, api.MaxDay+1, math.MaxInt)
	to := func(y *api.Yard) *int { return &y.Jobs[0].To }
	numbers(t, "to", to, true, 47, 48, 86, 87)
	numbers(t, "to", to, false, math.MinInt, -1, 0, 46, 88, api.MaxDay, api.MaxDay+1, math.MaxInt)
	for _, c := range []struct {
		from, to int
		valid    bool
	}{
		{0, 0, true}, {0, 40, true}, {0, 41, false}, {-1, 0, false}, {-1, -1, false}, {-2, 30, false},
		{api.MaxDay, api.MaxDay, true}, {api.MaxDay - 40, api.MaxDay, true}, {api.MaxDay - 41, api.MaxDay, false},
		{api.MaxDay, api.MaxDay + 1, false}, {api.MaxDay + 1, api.MaxDay + 1, false}, {math.MaxInt, math.MinInt, false}, {math.MinInt, math.MaxInt, false},
	} {
		for job := range 3 {
			y := example()
			y.Jobs[job].From, y.Jobs[job].To = c.from, c.to
			allTake(t, "days", c.valid, y)
		}
	}
}

// No bed has more jobs with a product than its Uses; other beds and other products do not count.
func TestUses(t *testing.T) {
	y := api.Yard{Beds: make([]api.SprayBed, 2)}
	for uses := 1; uses <= 3; uses++ {
		y.Products = append(y.Products, api.Product{Wait: []int{0}, Uses: uses})
	}
	job := func(bed, product int) api.Job { return api.Job{Bed: bed, Product: product} }
	for _, c := range []struct {
		name  string
		jobs  []api.Job
		valid bool
	}{
		{"once", []api.Job{job(0, 0)}, true},
		{"twice instead of once", []api.Job{job(0, 0), job(0, 0)}, false},
		{"once on each bed", []api.Job{job(0, 0), job(1, 0)}, true},
		{"once on the one, twice on the other", []api.Job{job(1, 0), job(0, 0), job(1, 0)}, false},
		{"another product", []api.Job{job(0, 0), job(0, 1), job(0, 2)}, true},
		{"as often as may be", []api.Job{job(0, 1), job(0, 2), job(0, 2), job(0, 1), job(0, 0), job(0, 2)}, true},
		{"the last one is too much", []api.Job{job(0, 1), job(0, 2), job(0, 2), job(0, 1), job(0, 2), job(0, 2)}, false},
		{"too often in the middle", []api.Job{job(1, 1), job(0, 2), job(1, 1), job(1, 1), job(0, 0)}, false},
		{"bed and product are not mistaken", []api.Job{job(0, 1), job(1, 0), job(0, 1)}, true},
		{"all on both", []api.Job{job(0, 2), job(1, 2), job(0, 2), job(1, 2), job(0, 2), job(1, 2)}, true},
		{"days do not matter", []api.Job{{From: 1, To: 9}, {From: 10, To: 20}}, false},
	} {
		y.Jobs = c.jobs
		allTake(t, c.name, c.valid, y)
	}
}

func TestHowMany(t *testing.T) {
	list := func(name string, most int, change func(y *api.Yard, n int)) {
		t.Helper()
		for n := range most + 3 {
			y := example()
			change(&y, n)
			allTake(t, name, n <= most, y)
		}
	}
	list("products", 8, func(y *api.Yard, n int) { y.Products, y.Jobs = slices.Repeat(y.Products[:1], n), nil })
	list("beds", 16, func(y *api.Yard, n int) { y.Beds, y.Jobs = slices.Repeat(y.Beds[:1], n), nil })
	list("stands", 16, func(y *api.Yard, n int) { y.Stands = slices.Repeat(y.Stands[:1], n) })
	list("jobs", 8, func(y *api.Yard, n int) {
		y.Jobs = slices.Repeat(y.Jobs[:1], n)
		y.Products[0].Uses = 16
	})
	allTake(t, "nothing", true, api.Yard{})
	allTake(t, "far too many", false, api.Yard{Stands: make([]api.Stand, 1<<16)})
	y := example()
	y.Products = nil
	allTake(t, "jobs without products", false, y)
	y = example()
	y.Beds = nil
	allTake(t, "jobs without beds", false, y)
}

// What is not valid anywhere in its list counts.
func TestEachElementCounts(t *testing.T) {
	for i := range 4 {
		y := example()
		y.Products = slices.Repeat(y.Products, 4)
		y.Products[i].Stay = -1
		allTake(t, "product", false, y)
		y = example()
		y.Beds = slices.Repeat(y.Beds, 2)
		y.Beds[i].Harvest = -1
		allTake(t, "bed", false, y)
		y = example()
		y.Stands = slices.Repeat(y.Stands, 2)
		y.Stands[i].X = -1
		allTake(t, "stand", false, y)
		y = example()
		y.Jobs = append(y.Jobs, y.Jobs[1])
		allTake(t, "job", true, y)
		y.Jobs[i].From = -1
		allTake(t, "job", false, y)
	}
}

// P1: no argument makes a function panic, and all of them end.
func TestNoPanic(t *testing.T) {
	odd := strangeNumbers()
	eachWorld(func(seed uint64, r world) {
		strange := func(numbers ...*int) {
			for _, n := range numbers {
				if r.IntN(60) == 0 {
					*n = odd[r.IntN(len(odd))]
				}
			}
		}
		y := r.someYard()
		for i := range y.Products {
			p := &y.Products[i]
			strange(&p.Reach, &p.Stay, &p.Uses)
			for k := range p.Wait {
				strange(&p.Wait[k])
			}
		}
		for i := range y.Beds {
			b := &y.Beds[i]
			strange(&b.X, &b.Y, &b.Harvest, &b.Market)
		}
		for i := range y.Stands {
			s := &y.Stands[i]
			strange(&s.X, &s.Y, &s.From, &s.To)
		}
		for i := range y.Jobs {
			j := &y.Jobs[i]
			strange(&j.Bed, &j.Product, &j.From, &j.To)
		}
		traps := r.someTraps()
		for i := range traps {
			x := &traps[i]
			strange(&x.Caught, &x.Rate.Lo, &x.Rate.Hi)
		}
		for _, n := range odd {
			spray.Reasons(y, n, n)
			spray.Reasons(y, 0, n)
			spray.Days(y, n)
			spray.Plan(y, n)
			spray.Clear(y, n)
			spray.Reach(y, slices.Repeat([]int{n}, len(y.Jobs)))
			spray.Needed(traps, n)
		}
		spray.Reach(y, make([]int, 20))
		spray.Pests(traps)
	})
}
