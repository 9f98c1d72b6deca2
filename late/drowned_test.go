package late_test

import (
	"math"
	"testing"

	"fenberry/api"
	"fenberry/late"
)

func expectDrowned(t *testing.T, name string, l api.Late, start, want int, wantError api.Errno) {
	t.Helper()
	if days, e := late.Drowned(l, start); days != want || e != wantError {
		t.Error(name, start, days, e, "instead of", want, wantError)
	}
}

func expectBears(t *testing.T, name string, l api.Late, start, want int, wantError api.Errno) {
	t.Helper()
	if days, e := late.Bears(l, start); days != want || e != wantError {
		t.Error(name, start, days, e, "instead of", want, wantError)
	}
}

// P6.3, P6.4: the chapter's examples.
func TestDrownedExamples(t *testing.T) {
	l := example()
	expectDrowned(t, "example", l, 0, 4, api.OK)
	expectDrowned(t, "example", l, 3, 2, api.OK)
	expectDrowned(t, "example", l, 5, 0, api.ErrNone)
	expectBears(t, "example", l, 0, 2, api.OK)
	expectBears(t, "example", l, 3, 2, api.OK)
}

// P6.3: the least number of days, from none to all that are left; the least warmth counts.
func TestDrownedByHand(t *testing.T) {
	l := still(6)
	l.Warm = []api.Span{span(0, 5000), span(10, 10), span(0, 10), span(5, 11), span(0, 0), span(1, 2)} // 0 10 10 15 15 16
	for _, c := range []struct {
		kill, start, days int
		e                 api.Errno
	}{
		{0, 0, 0, api.OK}, {1, 0, 2, api.OK}, {10, 0, 2, api.OK}, {11, 0, 4, api.OK}, {15, 0, 4, api.OK}, {16, 0, 6, api.OK}, {17, 0, 0, api.ErrNone},
		{10, 1, 1, api.OK}, {16, 1, 5, api.OK}, {17, 1, 0, api.ErrNone},
		{0, 2, 0, api.OK}, {1, 2, 2, api.OK}, {6, 2, 4, api.OK}, {7, 2, 0, api.ErrNone},
		{1, 4, 2, api.OK}, {1, 5, 1, api.OK}, {2, 5, 0, api.ErrNone},
		{0, 6, 0, api.OK}, {1, 6, 0, api.ErrNone},
	} {
		l.Kill = c.kill
		expectDrowned(t, "by hand", l, c.start, c.days, c.e)
	}
	l.Base, l.Kill = 9, 2
	expectDrowned(t, "by what is above Base", l, 0, 0, api.ErrNone)
	l.Kill = 1
	expectDrowned(t, "by what is above Base", l, 0, 2, api.OK)
	l.Base, l.Kill = 5000, 0
	expectDrowned(t, "nothing kills", l, 0, 0, api.OK)
	expectDrowned(t, "nothing at all", api.Late{}, 0, 0, api.OK)
	expectDrowned(t, "no days", api.Late{Kill: 1}, 0, 0, api.ErrNone)
	hot := still(40)
	for day := range hot.Warm {
		hot.Warm[day] = span(api.MaxWarmth, api.MaxWarmth)
	}
	hot.Kill = 200000
	expectDrowned(t, "all days", hot, 0, 40, api.OK)
	expectDrowned(t, "all but one", hot, 1, 0, api.ErrNone)
	hot.Kill++
	expectDrowned(t, "too much", hot, 0, 0, api.ErrNone)
}

// P6.4: the greatest number of days, from none to all that are left; the least oxygen counts.
func TestBearsByHand(t *testing.T) {
	l := still(6)
	l.Full, l.First, l.Fresh, l.Rate = 10, span(8, 10), span(10, 10), span(100, 100)
	l.Warm = []api.Span{span(1, 2), span(0, 0), span(0, 3), span(0, 0), span(0, 0), span(0, 9)}
	l.Air[4] = span(4, 5) // 6 6 3 3 7 0
	for _, c := range []struct{ need, bear, start, days int }{
		{6, 0, 0, 2}, {7, 0, 0, 0}, {7, 1, 0, 1}, {3, 0, 0, 5}, {0, 0, 0, 6}, {4, 1, 0, 3}, {4, 2, 0, 5}, {4, 3, 0, 6},
		{7, 3, 0, 3}, {7, 4, 0, 5}, {7, 5, 0, 6}, {8, 5, 0, 5}, {8, 6, 0, 6}, {20000, 40, 0, 6}, {20000, 0, 0, 0},
		// From the day 1 on 8 5 5 9 0, from 2 on 5 5 9 0, from 4 on 10 1.
		{6, 0, 1, 1}, {6, 2, 1, 4}, {6, 0, 2, 0}, {6, 0, 4, 1}, {1, 0, 4, 2}, {2, 0, 4, 1}, {20000, 0, 6, 0}, {0, 0, 6, 0},
	} {
		l.Need, l.Bear = c.need, c.bear
		expectBears(t, "by hand", l, c.start, c.days, api.OK)
	}
	expectBears(t, "nothing at all", api.Late{}, 0, 0, api.OK)
	expectBears(t, "all days", still(40), 0, 40, api.OK)
	expectBears(t, "the last day", still(40), 39, 1, api.OK)
	for bear := range 41 {
		l := still(40)
		l.Need, l.Bear = 1, bear
		expectBears(t, "always suffering", l, 0, bear, api.OK)
		expectBears(t, "always suffering", l, 30, min(10, bear), api.OK)
	}
}

// P6.3, P6.4: ErrRange unless the start is one of a flood.
func TestStarts(t *testing.T) {
	for _, start := range []int{math.MinInt, math.MinInt + 1, -1, 7, 8, 40, math.MaxInt} {
		expectDrowned(t, "start", example(), start, 0, api.ErrRange)
		expectBears(t, "start", example(), start, 0, api.ErrRange)
	}
	for _, start := range []int{-1, 1} {
		expectDrowned(t, "start", api.Late{}, start, 0, api.ErrRange)
		expectBears(t, "start", api.Late{}, start, 0, api.ErrRange)
	}
	expectDrowned(t, "start", example(), 6, 0, api.ErrNone)
	expectBears(t, "start", example(), 6, 0, api.OK)
}

// judgeDrowned tries all days.
func judgeDrowned(l api.Late, start int) (int, api.Errno) {
	for days := range len(l.Warm) - start + 1 {
		if judgeDead(l, start, days) == 2 {
			return days, api.OK
		}
	}
	return 0, api.ErrNone
}

// judgeBears tries all days.
func judgeBears(l api.Late, start int) int {
	most := 0
	for days := range len(l.Warm) - start + 1 {
		if judgeHurt(l, start, days, nil) == 0 {
			most = days
		}
	}
	return most
}

// P6.3, P6.4: as going through all that can be true.
func TestDrownedIsJudge(t *testing.T) {
	some, none, all, fewer := 0, 0, 0, 0
	eachSmall(func(seed uint64, r world) {
		l := r.someForecast()
		for start := range len(l.Warm) + 1 {
			days, e := judgeDrowned(l, start)
			bears := judgeBears(l, start)
			expectDrowned(t, "judge", l, start, days, e)
			expectBears(t, "judge", l, start, bears, api.OK)
			switch {
			case e == api.ErrNone:
				none++
			case days > 0:
				some++
			}
			switch left := len(l.Warm) - start; {
			case bears < left:
				fewer++
			case left > 0:
				all++
			}
		}
		if t.Failed() {
			t.Fatal(seed, l)
		}
	})
	if min(some, none, all, fewer) < 100 {
		t.Error("too few", some, none, all, fewer)
	}
}
