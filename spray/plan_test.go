package spray_test

import (
	"math"
	"slices"
	"testing"

	"fenberry/api"
	"fenberry/spray"
)

func expectPlan(t *testing.T, name string, y api.Yard, crews int, want []int, wantError api.Errno) {
	t.Helper()
	if l, e := spray.Plan(y, crews); !slices.Equal(l, want) || e != wantError {
		t.Error(name, crews, l, e, "instead of", want, wantError)
	}
}

// window is the days of a job on a bed.
type window struct{ bed, from, to int }

// open returns a yard in which jobs may be done on all of their days.
func open(windows ...window) api.Yard {
	y := api.Yard{Products: []api.Product{{Wait: []int{0}, Uses: api.MaxUses}}}
	y.Beds = slices.Repeat([]api.SprayBed{{Harvest: api.MaxDay}}, api.MaxSprayBeds)
	for _, w := range windows {
		y.Jobs = append(y.Jobs, api.Job{Bed: w.bed, From: w.from, To: w.to})
	}
	return y
}

// P5.3: the chapter's example, and changes of it.
func TestPlanExample(t *testing.T) {
	for crews := 1; crews <= api.MaxCrews; crews++ {
		expectPlan(t, "example", example(), crews, []int{47, 60, 61}, api.OK)
	}
	for _, c := range []struct {
		name string
		do   func(y *api.Yard)
		one  []int // with one crew
		two  []int // with two
	}{
		{"the first one has to wait for the hives", func(y *api.Yard) { y.Jobs[0].From = 48 }, []int{61, 60, 62}, []int{61, 60, 62}},
		{"and has only a day", func(y *api.Yard) { y.Jobs[0] = api.Job{From: 62, To: 62} }, []int{62, 60, 61}, []int{62, 60, 61}},
		{"the same bed on the same day", func(y *api.Yard) { y.Jobs[0], y.Jobs[2] = api.Job{From: 62, To: 62}, api.Job{From: 62, To: 62} }, nil, nil},
		{"the other bed on the same day", func(y *api.Yard) { y.Jobs[1].To = 60; y.Stands[0].To = 59; y.Jobs[0] = api.Job{From: 60, To: 60} }, nil, []int{60, 60, 61}},
		{"no hives", func(y *api.Yard) { y.Stands = nil }, []int{47, 60, 61}, []int{47, 60, 61}},
		{"hives for ever", func(y *api.Yard) { y.Stands[0].To = 999 }, nil, nil},
		{"an early harvest", func(y *api.Yard) { y.Beds[1].Harvest = 89 }, nil, nil},
		{"just early enough", func(y *api.Yard) { y.Beds[1].Harvest = 90 }, []int{47, 60, 61}, []int{47, 60, 61}},
		{"one job", func(y *api.Yard) { y.Jobs = y.Jobs[:1] }, []int{47}, []int{47}},
	} {
		y := example()
		c.do(&y)
		for i, want := range [][]int{c.one, c.two} {
			e := api.OK
			if want == nil {
				e = api.ErrNone
			}
			expectPlan(t, c.name, y, i+1, want, e)
		}
	}
}

// P5.3: the empty plan, with any crews.
func TestPlanOfNothing(t *testing.T) {
	for crews := 1; crews <= api.MaxCrews; crews++ {
		expectPlan(t, "nothing", api.Yard{}, crews, nil, api.OK)
	}
	y := example()
	y.Jobs = nil
	expectPlan(t, "no jobs", y, 1, nil, api.OK)
}

// P5.3: ErrRange unless the crews are from 1 to 8, also if there are no jobs, or no plan.
func TestPlanErrors(t *testing.T) {
	none := open(window{0, 1, 1}, window{0, 1, 1})
	for _, crews := range []int{math.MinInt, -1, 0, 9, 10, math.MaxInt} {
		expectPlan(t, "crews", example(), crews, nil, api.ErrRange)
		expectPlan(t, "crews", api.Yard{}, crews, nil, api.ErrRange)
		expectPlan(t, "crews", none, crews, nil, api.ErrRange)
	}
	for crews := 1; crews <= api.MaxCrews; crews++ {
		expectPlan(t, "none", none, crews, nil, api.ErrNone)
	}
}

// P5.3: by hand. A plan ends as early as it can; then an earlier job decides ahead of a later one.
func TestPlanByHand(t *testing.T) {
	for _, c := range []struct {
		name  string
		crews int
		y     api.Yard
		want  []int // nil if there is none
	}{
		{"on its first day", 1, open(window{0, 5, 9}), []int{5}},
		{"on the day 0", 1, open(window{0, 0, 40}), []int{0}},
		{"both on the day 0", 2, open(window{0, 0, 40}, window{1, 0, 0}), []int{0, 0}},
		{"on the last day", 1, open(window{0, api.MaxDay, api.MaxDay}), []int{api.MaxDay}},
		{"one after the other", 1, open(window{0, 5, 9}, window{1, 5, 9}, window{2, 5, 9}), []int{5, 6, 7}},
		{"two after two", 2, open(window{0, 5, 9}, window{1, 5, 9}, window{2, 5, 9}), []int{5, 5, 6}},
		{"all at once", 3, open(window{0, 5, 9}, window{1, 5, 9}, window{2, 5, 9}), []int{5, 5, 5}},
		{"not of the same bed", 3, open(window{0, 5, 9}, window{1, 5, 9}, window{0, 5, 9}), []int{5, 5, 6}},
		{"none of the same bed", 8, open(window{3, 5, 9}, window{3, 5, 9}, window{3, 5, 9}), []int{5, 6, 7}},
		{"the first one gives way", 1, open(window{0, 5, 9}, window{1, 5, 5}), []int{6, 5}},
		{"the first one gives way to two", 1, open(window{0, 5, 9}, window{1, 5, 6}, window{2, 5, 5}), []int{7, 6, 5}},
		{"it gives way only as far as it has to", 1, open(window{0, 5, 9}, window{1, 6, 6}, window{2, 5, 7}), []int{5, 6, 7}},
		{"none gives way", 1, open(window{0, 5, 9}, window{1, 5, 6}, window{2, 6, 7}), []int{5, 6, 7}},
		{"the first one gives way, and the second one to it", 1, open(window{0, 5, 9}, window{1, 6, 9}, window{2, 5, 5}), []int{6, 7, 5}},
		{"the end does not depend on the first jobs", 1, open(window{0, 5, 9}, window{1, 30, 39}, window{2, 5, 9}), []int{5, 30, 6}},
		{"the third one is behind the second one", 1, open(window{0, 5, 8}, window{1, 6, 9}, window{2, 5, 9}, window{3, 9, 9}), []int{5, 6, 7, 9}},
		{"too few days", 1, open(window{0, 5, 6}, window{1, 5, 6}, window{2, 5, 6}), nil},
		{"too few days for a bed", 8, open(window{0, 5, 6}, window{0, 5, 6}, window{0, 5, 6}), nil},
		{"enough days", 1, open(window{0, 5, 6}, window{1, 4, 6}, window{2, 5, 6}), []int{5, 4, 6}},
		{"two crews for four jobs", 2, open(window{0, 5, 6}, window{0, 5, 6}, window{1, 5, 6}, window{1, 5, 6}), []int{5, 6, 5, 6}},
		{"two crews for five jobs", 2, open(window{0, 5, 6}, window{1, 5, 6}, window{2, 5, 6}, window{3, 5, 6}, window{4, 5, 6}), nil},
		{"three crews for five jobs", 3, open(window{0, 5, 6}, window{1, 5, 6}, window{2, 5, 6}, window{3, 5, 6}, window{4, 5, 6}), []int{5, 5, 5, 6, 6}},
		{"eight at once", 8, open(window{0, 5, 5}, window{1, 5, 5}, window{2, 5, 5}, window{3, 5, 5}, window{4, 5, 5}, window{5, 5, 5}, window{6, 5, 5}, window{7, 5, 5}), []int{5, 5, 5, 5, 5, 5, 5, 5}},
		{"seven of eight", 7, open(window{0, 5, 5}, window{1, 5, 5}, window{2, 5, 5}, window{3, 5, 5}, window{4, 5, 5}, window{5, 5, 5}, window{6, 5, 5}, window{7, 5, 5}), nil},
	} {
		e := api.OK
		if c.want == nil {
			e = api.ErrNone
		}
		expectPlan(t, c.name, c.y, c.crews, c.want, e)
	}
}

// P5.3: an early end is better than an early first job.
func TestPlanEndsFirst(t *testing.T) {
	y := open(window{0, 5, 8}, window{1, 5, 8})
	y.Stands = []api.Stand{{X: 1, From: 6, To: 7}}
	y.Products = append(y.Products, api.Product{Reach: 1, Wait: []int{0}, Uses: 1})
	y.Jobs[1].Product = 1 // on the days 5 and 8 only
	expectPlan(t, "ends on 6 rather than on 8", y, 1, []int{6, 5}, api.OK)
	expectPlan(t, "both on 5", y, 2, []int{5, 5}, api.OK)
	y.Jobs[0].To = 5
	expectPlan(t, "ends on 8", y, 1, []int{5, 8}, api.OK)
}

// P5.3, P1: jobs that hinder only each other are found out, though the others have all days, and could be tried in many ways.
func TestPlanEnds(t *testing.T) {
	for crews := 1; crews <= api.MaxCrews; crews++ {
		for _, days := range []int{1, 2} {
			var windows []window
			for i := range api.MaxJobs - days - 1 {
				windows = append(windows, window{i, 0, 40})
			}
			late := slices.Repeat([]window{{15, 500, 499 + days}}, days+1)
			expectPlan(t, "one too many", open(append(windows, late...)...), crews, nil, api.ErrNone)
			expectPlan(t, "one too many", open(append(late, windows...)...), crews, nil, api.ErrNone)
			late[days].to++
			var want []int
			for i := range windows {
				want = append(want, i/crews)
			}
			for i := range late {
				want = append(want, 500+i)
			}
			expectPlan(t, "just enough", open(append(windows, late...)...), crews, want, api.OK)
		}
	}
	// A job far behind has no day on which hives are away.
	y := open(window{0, 0, 40}, window{1, 0, 40}, window{2, 0, 40}, window{3, 0, 40}, window{4, 0, 40}, window{5, 0, 40}, window{6, 0, 40}, window{7, 300, 340})
	y.Stands = []api.Stand{{From: 300, To: 340}}
	expectPlan(t, "never", y, 1, nil, api.ErrNone)
	y.Stands[0].To = 339
	expectPlan(t, "on the last day", y, 1, []int{0, 1, 2, 3, 4, 5, 6, 340}, api.OK)
}

// P5.3: all jobs on all days, of one bed or of eight.
func TestPlanFull(t *testing.T) {
	for crews := 1; crews <= api.MaxCrews; crews++ {
		var same, other []window
		var one, many []int
		for i := range api.MaxJobs {
			same, other = append(same, window{0, 100, 140}), append(other, window{i, 100, 140})
			one, many = append(one, 100+i), append(many, 100+i/crews)
		}
		expectPlan(t, "one bed", open(same...), crews, one, api.OK)
		expectPlan(t, "eight beds", open(other...), crews, many, api.OK)
		for i := range same {
			same[i].to = 106
		}
		expectPlan(t, "a day too few", open(same...), crews, nil, api.ErrNone)
	}
}

// P5.3: as trying all plans, and as going from day to day.
func TestPlanIsBest(t *testing.T) {
	some, shared, none := 0, 0, 0
	eachWorld(func(seed uint64, r world) {
		y, crews := r.someYard(), r.someCrews()
		want, ok := bestByDays(y, crews)
		if r.sizes == few() {
			all, ok2 := bestOfAll(y, crews)
			if !slices.Equal(all, want) || ok != ok2 {
				t.Fatal(seed, "the test contradicts itself", y, crews, want, ok, all, ok2)
			}
		}
		e := api.OK
		if !ok {
			e = api.ErrNone
		}
		expectPlan(t, "best", y, crews, want, e)
		if t.Failed() {
			t.Fatal(seed, y)
		}
		switch {
		case !ok:
			none++
		case len(want) > 1:
			some++
			days := slices.Sorted(slices.Values(want))
			if len(slices.Compact(days)) < len(want) {
				shared++
			}
		}
	})
	if min(some, shared, none) < 100 {
		t.Error("too few", some, shared, none)
	}
}

// P5.3: many jobs in few days, of which only some can be the best ones.
func TestPlanOfManyIsBest(t *testing.T) {
	some, none := 0, 0
	for seed := range uint64(2000) {
		r := newWorld(seed, few())
		beds, days, crews := r.between(1, 8), r.between(2, 9), r.between(1, 3)
		var windows []window
		for range r.between(3, api.MaxJobs) {
			from := r.IntN(days)
			windows = append(windows, window{r.IntN(beds), from, r.between(from, days)})
		}
		y := open(windows...)
		want, ok := bestByDays(y, crews)
		if ok {
			some++
			expectPlan(t, "best", y, crews, want, api.OK)
		} else {
			none++
			expectPlan(t, "none", y, crews, nil, api.ErrNone)
		}
		if t.Failed() {
			t.Fatal(seed, windows)
		}
	}
	if min(some, none) < 400 {
		t.Error("too few", some, none)
	}
}
