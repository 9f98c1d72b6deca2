package spray_test

import (
	"math"
	"slices"
	"testing"

	"fenberry/api"
	"fenberry/spray"
)

func expectClear(t *testing.T, name string, y api.Yard, job, wantDay int, want []int, wantError api.Errno) {
	t.Helper()
	if day, l, e := spray.Clear(y, job); day != wantDay || !slices.Equal(l, want) || e != wantError {
		t.Error(name, job, day, l, e, "instead of", wantDay, want, wantError)
	}
}

func expectReach(t *testing.T, name string, y api.Yard, days []int, want [][2]int, wantError api.Errno) {
	t.Helper()
	if l, e := spray.Reach(y, days); !slices.Equal(l, want) || e != wantError {
		t.Error(name, days, l, e, "instead of", want, wantError)
	}
}

// P5.4, P5.5: the chapter's examples.
func TestClearExamples(t *testing.T) {
	y := example()
	expectClear(t, "example", y, 0, 47, nil, api.OK)
	expectClear(t, "example", y, 1, 60, nil, api.OK)
	expectClear(t, "example", y, 2, 61, nil, api.OK)
	expectReach(t, "example", y, []int{50, 60, 61}, [][2]int{{0, 0}}, api.OK)
	y.Jobs[0] = api.Job{From: 55, To: 58}
	expectClear(t, "example", y, 0, 55, []int{0}, api.OK)
}

// P5.4: the first of the days on which the fewest stands are reached.
func TestClearByHand(t *testing.T) {
	stand := func(from, to int) api.Stand { return api.Stand{X: 100, Y: 100, From: from, To: to} }
	for _, c := range []struct {
		name   string
		stands []api.Stand
		day    int
		want   []int
	}{
		{"nobody there", nil, 10, nil},
		{"away on the last day", []api.Stand{stand(0, 19)}, 20, nil},
		{"away on a day", []api.Stand{stand(0, 13), stand(15, 30)}, 14, nil},
		{"away on two days", []api.Stand{stand(0, 13), stand(16, 30)}, 14, nil},
		{"always one of them", []api.Stand{stand(0, 13), stand(14, 30)}, 10, []int{0}},
		{"always one of them, the other one first", []api.Stand{stand(14, 30), stand(0, 13)}, 10, []int{1}},
		{"at first both", []api.Stand{stand(0, 13), stand(0, 30)}, 14, []int{1}},
		{"at last both", []api.Stand{stand(14, 30), stand(0, 30)}, 10, []int{1}},
		{"three, two, one, two", []api.Stand{stand(0, 30), stand(0, 12), stand(0, 14), stand(17, 30)}, 15, []int{0}},
		{"two of four, and two others later", []api.Stand{stand(0, 14), stand(15, 30), stand(0, 14), stand(15, 30)}, 10, []int{0, 2}},
		{"always the same two", []api.Stand{stand(0, 30), stand(40, 50), stand(10, 20)}, 10, []int{0, 2}},
		{"one day less", []api.Stand{stand(0, 30), stand(40, 50), stand(10, 19)}, 20, []int{0}},
		{"all of them", slices.Repeat([]api.Stand{stand(0, 30)}, 16), 10, []int{0, 1, 2, 3, 4, 5, 6, 7, 8, 9, 10, 11, 12, 13, 14, 15}},
	} {
		y := lone()
		y.Stands = c.stands
		expectClear(t, c.name, y, 0, c.day, c.want, api.OK)
	}
}

// P5.4: only days that the job and the harvest allow; ErrNone if there is none, whether or not stands are reached.
func TestClearAllowed(t *testing.T) {
	y := lone()
	y.Products[0].Wait[0] = 5
	y.Stands = []api.Stand{{X: 100, Y: 100, From: 9, To: 20}}
	for _, c := range []struct {
		harvest, to, day int
		stands           []int
		e                api.Errno
	}{
		{100, 21, 21, nil, api.OK},
		{100, 20, 10, []int{0}, api.OK},
		{26, 30, 21, nil, api.OK},
		{25, 30, 10, []int{0}, api.OK},
		{15, 30, 10, []int{0}, api.OK},
		{14, 30, 0, nil, api.ErrNone},
		{5, 30, 0, nil, api.ErrNone},
		{0, 10, 0, nil, api.ErrNone},
		{15, 10, 10, []int{0}, api.OK},
	} {
		y.Beds[0].Harvest, y.Jobs[0].To = c.harvest, c.to
		expectClear(t, "allowed", y, 0, c.day, c.stands, c.e)
	}
	y.Stands = nil
	y.Beds[0].Harvest = 14
	expectClear(t, "no hives, no day", y, 0, 0, nil, api.ErrNone)
	y.Jobs[0].From, y.Jobs[0].To = 0, 3
	expectClear(t, "the day 0", y, 0, 0, nil, api.OK)
}

// P5.4: ErrRange unless the job is an index, ahead of ErrNone.
func TestClearErrors(t *testing.T) {
	none := lone()
	none.Beds[0].Harvest = 0
	for _, job := range []int{math.MinInt, -1, 3, 4, 8, math.MaxInt} {
		expectClear(t, "job", example(), job, 0, nil, api.ErrRange)
		expectClear(t, "job", none, job, 0, nil, api.ErrRange)
		expectClear(t, "job", api.Yard{}, job, 0, nil, api.ErrRange)
	}
	expectClear(t, "none", none, 0, 0, nil, api.ErrNone)
}

// P5.4: as the chapter says it.
func TestClearIsJudge(t *testing.T) {
	clear, some, none := 0, 0, 0
	eachWorld(func(seed uint64, r world) {
		y := r.someYard()
		for job, j := range y.Jobs {
			found, day, stands := false, 0, []int(nil)
			for d := j.From; d <= j.To; d++ {
				l := judgeStands(y, job, d)
				if slices.Contains(judge(y, job, d), 2) || found && len(l) >= len(stands) {
					continue
				}
				found, day, stands = true, d, l
			}
			switch {
			case !found:
				none++
				expectClear(t, "judge", y, job, 0, nil, api.ErrNone)
				continue
			case len(stands) > 0:
				some++
			default:
				clear++
			}
			expectClear(t, "judge", y, job, day, stands, api.OK)
		}
		if t.Failed() {
			t.Fatal(seed, y)
		}
	})
	if min(clear, some, none) < 100 {
		t.Error("too few", clear, some, none)
	}
}

// P5.5: pairs by rising job, then by rising stand, whether or not the job may be done on its day.
func TestReachByHand(t *testing.T) {
	y := example()
	for _, c := range []struct {
		days []int
		want [][2]int
	}{
		{[]int{47, 60, 61}, nil},
		{[]int{48, 60, 61}, [][2]int{{0, 0}}},
		{[]int{60, 60, 60}, [][2]int{{0, 0}, {2, 0}}},
		{[]int{61, 60, 60}, [][2]int{{2, 0}}},
		{[]int{0, 0, 0}, nil},
		{[]int{api.MaxDay, api.MaxDay, api.MaxDay}, nil},
		{[]int{50, 50, 50}, [][2]int{{0, 0}, {2, 0}}},
	} {
		expectReach(t, "example", y, c.days, c.want, api.OK)
	}
	y.Stands[1].Y = 100
	expectReach(t, "both stands", y, []int{50, 99, 50}, [][2]int{{0, 0}, {1, 1}, {2, 0}}, api.OK)
	y.Stands = append(y.Stands, y.Stands...)
	expectReach(t, "twice", y, []int{50, 0, 50}, [][2]int{{0, 0}, {0, 2}, {1, 1}, {1, 3}, {2, 0}, {2, 2}}, api.OK)
	y.Products[0].Reach = 300
	expectReach(t, "far", y, []int{49, 48, 47}, [][2]int{{0, 0}, {0, 2}, {1, 0}, {1, 1}, {1, 2}, {1, 3}}, api.OK)
	y.Jobs = nil
	expectReach(t, "no jobs", y, nil, nil, api.OK)
	expectReach(t, "nothing", api.Yard{}, []int{}, nil, api.OK)
}

// P5.5: ErrRange unless there are as many days as jobs, all of them days.
func TestReachErrors(t *testing.T) {
	y := example()
	for _, days := range [][]int{nil, {}, {50}, {50, 60}, {50, 60, 61, 62}, {-1, 60, 61}, {50, -1, 61}, {50, 60, -1}, {50, 60, api.MaxDay + 1}, {math.MaxInt, 60, 61}, {50, math.MinInt, 61}} {
		expectReach(t, "days", y, days, nil, api.ErrRange)
	}
	expectReach(t, "no jobs", api.Yard{}, []int{0}, nil, api.ErrRange)
	expectReach(t, "limits", y, []int{0, api.MaxDay, 0}, nil, api.OK)
}

// P5.5: as the chapter says it.
func TestReachIsJudge(t *testing.T) {
	pairs := 0
	eachWorld(func(seed uint64, r world) {
		y := r.someYard()
		for range 5 {
			days := r.someDays(y)
			var want [][2]int
			for job, day := range days {
				for stand := range y.Stands {
					if judgeStand(y, job, day, stand) {
						want = append(want, [2]int{job, stand})
					}
				}
			}
			pairs += len(want)
			expectReach(t, "judge", y, days, want, api.OK)
		}
		if t.Failed() {
			t.Fatal(seed, y)
		}
	})
	if pairs < 1000 {
		t.Error("too few", pairs)
	}
}
