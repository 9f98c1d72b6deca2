package spray_test

import (
	"math"
	"slices"
	"testing"

	"fenberry/api"
	"fenberry/spray"
)

func expectReasons(t *testing.T, name string, y api.Yard, job, day int, want []int, wantError api.Errno) {
	t.Helper()
	if l, e := spray.Reasons(y, job, day); !slices.Equal(l, want) || e != wantError {
		t.Error(name, job, day, l, e, "instead of", want, wantError)
	}
}

func expectDays(t *testing.T, name string, y api.Yard, job int, want []int, wantError api.Errno) {
	t.Helper()
	if l, e := spray.Days(y, job); !slices.Equal(l, want) || e != wantError {
		t.Error(name, job, l, e, "instead of", want, wantError)
	}
}

// P5.1, P5.2: the chapter's examples.
func TestReasonsExamples(t *testing.T) {
	y := example()
	for day, want := range map[int][]int{47: nil, 48: {3}, 60: {3}, 64: {1}} {
		expectReasons(t, "example", y, 0, day, want, api.OK)
	}
	expectReasons(t, "example", y, 1, 70, nil, api.OK)
	expectReasons(t, "example", y, 1, 71, []int{2}, api.OK)
	expectDays(t, "example", y, 0, []int{47, 61, 62, 63}, api.OK)
	expectDays(t, "example", y, 1, []int{60, 61, 62, 63, 64, 65, 66, 67, 68, 69, 70}, api.OK)
	expectDays(t, "example", y, 2, []int{61, 62}, api.OK)
}

// lone returns a yard of one job, on the days 10 to 20, far ahead of the harvest and of no hives.
func lone() api.Yard {
	return api.Yard{
		Products: []api.Product{{Reach: 5, Wait: []int{0}, Uses: 1}},
		Beds:     []api.SprayBed{{X: 100, Y: 100, Harvest: 1000}},
		Jobs:     []api.Job{{From: 10, To: 20}},
	}
}

// P5.1: too soon ahead of the job's days, too old behind them.
func TestTooSoonTooOld(t *testing.T) {
	y := lone()
	for day, want := range map[int][]int{0: {0}, 9: {0}, 10: nil, 11: nil, 20: nil, 21: {1}, 1000: {1}, 1001: {1, 2}, api.MaxDay: {1, 2}} {
		expectReasons(t, "ten days", y, 0, day, want, api.OK)
	}
	y.Jobs[0].To = 10
	for day, want := range map[int][]int{9: {0}, 10: nil, 11: {1}} {
		expectReasons(t, "one day", y, 0, day, want, api.OK)
	}
	expectDays(t, "one day", y, 0, []int{10}, api.OK)
}

// P5.1, P5.2: the day and what has to be waited for the bed's market, together, are at most the harvest.
func TestWaiting(t *testing.T) {
	y := lone()
	y.Products[0].Wait = []int{3, 0, 7}
	for _, c := range []struct {
		market, harvest int
		days            []int
	}{
		{0, 100, []int{10, 11, 12, 13, 14, 15, 16, 17, 18, 19, 20}},
		{0, 23, []int{10, 11, 12, 13, 14, 15, 16, 17, 18, 19, 20}},
		{0, 22, []int{10, 11, 12, 13, 14, 15, 16, 17, 18, 19}},
		{0, 14, []int{10, 11}},
		{0, 13, []int{10}},
		{0, 12, nil},
		{1, 12, []int{10, 11, 12}},
		{1, 10, []int{10}},
		{1, 9, nil},
		{2, 18, []int{10, 11}},
		{2, 17, []int{10}},
		{2, 16, nil},
		{2, 3, nil},
		{2, 0, nil},
	} {
		y.Beds[0].Market, y.Beds[0].Harvest = c.market, c.harvest
		expectDays(t, "waiting", y, 0, c.days, api.OK)
		for day := 10; day <= 20; day++ {
			want := []int{2}
			if slices.Contains(c.days, day) {
				want = nil
			}
			expectReasons(t, "waiting", y, 0, day, want, api.OK)
		}
	}
	expectReasons(t, "too soon, but too late for the market", y, 0, 5, []int{0, 2}, api.OK)
	expectReasons(t, "too soon, on the first day", y, 0, 0, []int{0, 2}, api.OK)
}

// P5.1: each bed has its own harvest and market, each job its own bed and product.
func TestEachJobHasItsOwn(t *testing.T) {
	y := lone()
	y.Products = append(y.Products, api.Product{Reach: 300, Stay: 30, Wait: []int{20, 30}, Uses: 1})
	y.Beds = append(y.Beds, api.SprayBed{X: 400, Y: 100, Harvest: 40, Market: 1})
	y.Stands = []api.Stand{{X: 106, Y: 100, From: 40, To: 41}}
	y.Jobs = append(y.Jobs, api.Job{Bed: 1, Product: 1, From: 9, To: 11}, api.Job{Bed: 1, From: 9, To: 11}, api.Job{Product: 1, From: 12, To: 14})
	y.Products[0].Wait = []int{5, 6}
	for _, c := range []struct {
		job  int
		days []int
	}{{0, []int{10, 11, 12, 13, 14, 15, 16, 17, 18, 19, 20}}, {1, []int{9}}, {2, []int{9, 10, 11}}, {3, nil}} {
		expectDays(t, "its own", y, c.job, c.days, api.OK)
	}
	expectReasons(t, "a wide reach", y, 1, 10, []int{3}, api.OK)
	expectReasons(t, "and a long wait", y, 1, 11, []int{2, 3}, api.OK)
	expectReasons(t, "all of it", y, 1, 12, []int{1, 2, 3}, api.OK)
	expectReasons(t, "all of it but one", y, 1, 8, []int{0}, api.OK)
	expectReasons(t, "reached", y, 3, 12, []int{3}, api.OK)
}

// P5.1: a stand is reached if it is at most so many metres away, in each direction.
func TestReachedMetres(t *testing.T) {
	for _, c := range []struct {
		x, y    int
		reached bool
	}{
		{100, 100, true}, {105, 100, true}, {95, 100, true}, {100, 105, true}, {100, 95, true},
		{106, 100, false}, {94, 100, false}, {100, 106, false}, {100, 94, false},
		{103, 104, true}, {97, 104, true}, {104, 97, true}, {96, 97, true},
		{104, 104, false}, {96, 104, false}, {105, 101, false}, {95, 99, false}, {103, 105, false},
		{0, 0, false}, {api.MaxMetres, api.MaxMetres, false}, {5, 0, false}, {0, 100, false}, {100, 0, false},
	} {
		y := lone()
		y.Stands = []api.Stand{{X: c.x, Y: c.y, To: 100}}
		var want []int
		if c.reached {
			want = []int{3}
		}
		expectReasons(t, "metres", y, 0, 15, want, api.OK)
	}
	y := lone()
	y.Products[0].Reach = 0
	y.Stands = []api.Stand{{X: 100, Y: 100, To: 100}, {X: 101, Y: 100, To: 100}, {X: 100, Y: 99, To: 100}}
	expectReasons(t, "no reach", y, 0, 15, []int{3}, api.OK)
}

// P5.1: the greatest distances.
func TestReachedFar(t *testing.T) {
	y := lone()
	y.Beds[0].X, y.Beds[0].Y = 0, api.MaxMetres
	y.Products[0].Reach = api.MaxMetres
	y.Stands = []api.Stand{{X: api.MaxMetres, To: 100}, {To: 100}, {X: 1, To: 100}, {X: api.MaxMetres, Y: api.MaxMetres, To: 100}, {X: api.MaxMetres, Y: api.MaxMetres - 1, To: 100}}
	expectReasons(t, "far", y, 0, 15, []int{4, 6}, api.OK)
}

// P5.1: a stand is reached if one of its days is the day, or one of the Stay days behind it.
func TestReachedDays(t *testing.T) {
	for _, c := range []struct {
		stay, from, to int
		days           []int // that are free
	}{
		{0, 14, 16, []int{10, 11, 12, 13, 17, 18, 19, 20}},
		{1, 14, 16, []int{10, 11, 12, 17, 18, 19, 20}},
		{3, 14, 16, []int{10, 17, 18, 19, 20}},
		{4, 14, 16, []int{17, 18, 19, 20}},
		{30, 14, 16, []int{17, 18, 19, 20}},
		{0, 15, 15, []int{10, 11, 12, 13, 14, 16, 17, 18, 19, 20}},
		{2, 15, 15, []int{10, 11, 12, 16, 17, 18, 19, 20}},
		{2, 22, 99, []int{10, 11, 12, 13, 14, 15, 16, 17, 18, 19}},
		{2, 23, 99, []int{10, 11, 12, 13, 14, 15, 16, 17, 18, 19, 20}},
		{30, 41, 41, []int{10}},
		{30, 40, 41, nil},
		{5, 0, 9, []int{10, 11, 12, 13, 14, 15, 16, 17, 18, 19, 20}},
		{5, 0, 10, []int{11, 12, 13, 14, 15, 16, 17, 18, 19, 20}},
		{5, 0, 19, []int{20}},
		{0, 0, 20, nil},
		{0, 0, api.MaxDay, nil},
	} {
		y := lone()
		y.Products[0].Stay = c.stay
		y.Stands = []api.Stand{{X: 100, Y: 100, From: c.from, To: c.to}}
		expectDays(t, "stay", y, 0, c.days, api.OK)
	}
}

// P5.1: all stands that are reached are named, rising, behind all other reasons.
func TestReachedStands(t *testing.T) {
	y := lone()
	here := api.Stand{X: 100, Y: 100, To: 30}
	far, gone := here, here
	far.X, gone.To = 200, 3
	y.Stands = []api.Stand{far, here, gone, here, here, far}
	expectReasons(t, "three of six", y, 0, 15, []int{4, 6, 7}, api.OK)
	expectReasons(t, "too soon", y, 0, 3, []int{0, 4, 5, 6, 7}, api.OK)
	expectReasons(t, "too soon", y, 0, 4, []int{0, 4, 6, 7}, api.OK)
	expectReasons(t, "too old", y, 0, 30, []int{1, 4, 6, 7}, api.OK)
	y.Beds[0].Harvest = 25
	expectReasons(t, "too old, and too late for the market", y, 0, 30, []int{1, 2, 4, 6, 7}, api.OK)
	y.Stands = slices.Repeat([]api.Stand{here}, api.MaxStands)
	expectReasons(t, "all", y, 0, 15, []int{3, 4, 5, 6, 7, 8, 9, 10, 11, 12, 13, 14, 15, 16, 17, 18}, api.OK)
	expectDays(t, "all", y, 0, nil, api.OK)
}

// P5.1, P5.2: ErrRange unless the job is an index, and the day is a day.
func TestReasonsErrors(t *testing.T) {
	y := example()
	for _, job := range []int{math.MinInt, -1, 3, 4, 8, math.MaxInt} {
		expectReasons(t, "job", y, job, 47, nil, api.ErrRange)
		expectDays(t, "job", y, job, nil, api.ErrRange)
	}
	for _, day := range []int{math.MinInt, -1, api.MaxDay + 1, math.MaxInt} {
		for job := range 3 {
			expectReasons(t, "day", y, job, day, nil, api.ErrRange)
		}
	}
	expectReasons(t, "first day", y, 0, 0, []int{0}, api.OK)
	expectReasons(t, "last day", y, 2, api.MaxDay, []int{1, 2}, api.OK)
	expectReasons(t, "no jobs", api.Yard{}, 0, 0, nil, api.ErrRange)
	expectDays(t, "no jobs", api.Yard{}, 0, nil, api.ErrRange)
}

// P5.1, P5.2: the last days that there are.
func TestLastDays(t *testing.T) {
	y := lone()
	y.Beds[0].Harvest = api.MaxDay
	y.Products[0].Stay = 30
	y.Jobs[0] = api.Job{From: api.MaxDay - 2, To: api.MaxDay}
	expectDays(t, "last days", y, 0, []int{api.MaxDay - 2, api.MaxDay - 1, api.MaxDay}, api.OK)
	y.Products[0].Wait[0] = 1
	expectDays(t, "waiting", y, 0, []int{api.MaxDay - 2, api.MaxDay - 1}, api.OK)
	y.Stands = []api.Stand{{X: 100, Y: 100, From: api.MaxDay, To: api.MaxDay}}
	expectReasons(t, "reached", y, 0, api.MaxDay, []int{2, 3}, api.OK)
	expectDays(t, "reached", y, 0, nil, api.OK)
}

// P5.1, P5.2: as the chapter says it.
func TestReasonsIsJudge(t *testing.T) {
	counts := map[int]int{}
	eachWorld(func(seed uint64, r world) {
		y := r.someYard()
		for job, j := range y.Jobs {
			for day := max(0, j.From-2); day <= min(api.MaxDay, j.To+2); day++ {
				want := judge(y, job, day)
				expectReasons(t, "judge", y, job, day, want, api.OK)
				for _, reason := range want {
					counts[min(reason, api.Reached)]++
				}
			}
			expectDays(t, "judge", y, job, judgeDays(y, job), api.OK)
		}
		if t.Failed() {
			t.Fatal(seed, y)
		}
	})
	for reason := api.TooSoon; reason <= api.Reached; reason++ {
		if counts[reason] < 200 {
			t.Error("too few", counts)
		}
	}
}
