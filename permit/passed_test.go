package permit_test

import (
	"testing"

	"fenberry/api"
	"fenberry/permit"
)

// P13.1: the chapter's examples.
func TestPassedExamples(t *testing.T) {
	l := exampleDischarges()
	expectPassed(t, "in 3 days", l, 3, 100000, -1, 12, api.OK)
	expectPassed(t, "in 6 days", l, 6, 150000, 15, 15, api.OK)
	expectPassed(t, "in 6 days", l, 6, 200000, -1, 15, api.OK)
	expectPassed(t, "in 6 days", l, 6, 202000, 0, 0, api.ErrNone)
	expectPassed(t, "in 6 days", l, 6, 201999, -1, 15, api.OK)
}

// P13.1: exactly the limit is not above it.
func TestPassedAtLimit(t *testing.T) {
	l := exampleDischarges()
	expectPassed(t, "least", l, 3, 99999, 12, 12, api.OK)
	expectPassed(t, "least", l, 3, 100000, -1, 12, api.OK)
	expectPassed(t, "most", l, 3, 121999, -1, 12, api.OK)
	// 500 times 100 and 2000 times 40 are in no window of three days.
	expectPassed(t, "most", l, 3, 122000, 0, 0, api.ErrNone)
	expectPassed(t, "nothing", l, 1, 0, 10, 10, api.OK)
	expectPassed(t, "surely later", l, 1, 50000, 15, 10, api.OK)
	for _, days := range []int{1, 2, 366} {
		expectPassed(t, "nothing", nil, days, 0, 0, 0, api.ErrNone)
		expectPassed(t, "nothing in it", []api.Discharge{lets(3, 0, 0), {Day: 4, Water: exact(9)}, {Day: 5, Content: exact(9)}}, days, 0, 0, 0, api.ErrNone)
		expectPassed(t, "perhaps nothing", []api.Discharge{lets(3, 0, 1)}, days, 0, -1, 3, api.OK)
		expectPassed(t, "surely something", []api.Discharge{lets(3, 1, 1)}, days, 0, 3, 3, api.OK)
	}
}

// P13.1: a window of n days has the day on which it ends and the n - 1 days ahead of it.
func TestPassedWindows(t *testing.T) {
	for _, days := range []int{1, 2, 3, 7, 365, 366} {
		for _, first := range []int{0, 1, 500, 1<<14 - 366} {
			near := []api.Discharge{lets(first, 5, 6), lets(first+days-1, 5, 6)}
			far := []api.Discharge{lets(first, 5, 6), lets(first+days, 5, 6)}
			last := first + days - 1
			expectPassed(t, "near", near, days, 9, last, last, api.OK)
			expectPassed(t, "near", near, days, 10, -1, last, api.OK)
			expectPassed(t, "near", near, days, 12, 0, 0, api.ErrNone)
			expectPassed(t, "far", far, days, 5, -1, first, api.OK)
			expectPassed(t, "far", far, days, 6, 0, 0, api.ErrNone)
		}
	}
	// What was behind does not come back.
	l := []api.Discharge{lets(1, 9, 9), lets(4, 1, 1), lets(5, 1, 1), lets(6, 1, 1), lets(9, 3, 3)}
	expectPassed(t, "behind", l, 3, 9, 0, 0, api.ErrNone)
	expectPassed(t, "behind", l[1:], 3, 2, 6, 6, api.OK)
	expectPassed(t, "behind", l[1:], 4, 3, 9, 9, api.OK)
	expectPassed(t, "behind", l[1:], 4, 4, 0, 0, api.ErrNone)
}

// P13.1: several discharges of one day are together, in any order.
func TestPassedOnOneDay(t *testing.T) {
	l := []api.Discharge{lets(3, 5, 10), lets(8, 1, 1), lets(3, 5, 5), lets(3, 0, 0)}
	expectPassed(t, "together", l, 1, 9, 3, 3, api.OK)
	expectPassed(t, "together", l, 1, 14, -1, 3, api.OK)
	expectPassed(t, "together", l, 1, 15, 0, 0, api.ErrNone)
	expectPassed(t, "together", l, 6, 10, 8, 3, api.OK)
	expectPassed(t, "together", l, 6, 15, -1, 8, api.OK)
}

// P13.1, R5: the greatest numbers are exact; a window may begin ahead of the day 0.
func TestPassedAtLimits(t *testing.T) {
	const most = 1 << 30 * 100000
	var l []api.Discharge
	for i := range 64 {
		l = append(l, api.Discharge{Day: 1<<14 - i, Water: exact(1 << 30), Content: exact(100000)})
	}
	expectPassed(t, "all", l, 64, 64*most-1, 1<<14, 1<<14, api.OK)
	expectPassed(t, "all", l, 64, 64*most, 0, 0, api.ErrNone)
	expectPassed(t, "all but one", l, 63, 63*most-1, 1<<14-1, 1<<14-1, api.OK)
	expectPassed(t, "all", l, 366, 1<<56, 0, 0, api.ErrNone)
	expectPassed(t, "the first day", []api.Discharge{lets(0, 1, 2)}, 366, 1, -1, 0, api.OK)
	expectPassed(t, "the last day", []api.Discharge{lets(1<<14, 1, 2)}, 366, 0, 1<<14, 1<<14, api.OK)
}

// P13.1: so many days and limits there can be.
func TestPassedErrors(t *testing.T) {
	for _, n := range append(strangeNumbers(), 365, 3) {
		want := api.OK
		if n < 1 || n > 366 {
			want = api.ErrRange
		}
		if _, _, e := permit.Passed(exampleDischarges(), n, 10); e != want {
			t.Error("days", n, e, want)
		}
		if want == api.ErrRange {
			expectPassed(t, "ahead of none", nil, n, 1<<56, 0, 0, want)
		}
		want = api.ErrRange
		if n >= 0 && n <= 1<<56 {
			want = api.ErrNone
		}
		expectPassed(t, "limit", nil, 3, n, 0, 0, want)
	}
}

// P13.1: as going through all days on which a window can end.
func TestPassedIsJudge(t *testing.T) {
	both, perhaps, none := 0, 0, 0
	eachWorld(func(seed uint64, r world) {
		l, days := r.someDischarges(), r.someDays()
		limit := r.someLimit(l, days)
		wantSurely, wantPerhaps, want := judgePassed(l, days, limit)
		expectPassed(t, "judge", l, days, limit, wantSurely, wantPerhaps, want)
		switch {
		case want == api.ErrNone:
			none++
		case wantSurely < 0:
			perhaps++
		case wantSurely > wantPerhaps:
			both++
		}
		if t.Failed() {
			t.Fatal(seed)
		}
	})
	if min(both, perhaps, none) < 40 {
		t.Error("too few", both, perhaps, none)
	}
}

// P13.8: whatever is true, no window is above the limit before the day on which it can be, and one is on the day on which it surely is; on both days it can be so, and nothing less.
func TestPassedWhateverIsTrue(t *testing.T) {
	known := 0
	eachWorld(func(seed uint64, r world) {
		l, days := r.someDischarges(), r.someDays()
		limit := r.someLimit(l, days)
		surely, perhaps, e := permit.Passed(l, days, limit)
		for range 5 {
			var truth []api.Discharge
			for _, d := range l {
				truth = append(truth, api.Discharge{Day: d.Day, Water: exact(r.inside(d.Water)), Content: exact(r.inside(d.Content))})
			}
			first, _, what := permit.Passed(truth, days, limit)
			if what == api.ErrNone {
				first = 1 << 20
			}
			if e == api.ErrNone && what != api.ErrNone || e == api.OK && first < perhaps || e == api.OK && surely >= 0 && first > surely {
				t.Fatal(seed, l, truth, days, limit, surely, perhaps, e, first)
			}
			if e == api.OK && surely >= 0 && first < surely {
				known++
			}
		}
	})
	if known < 40 {
		t.Error("too few", known)
	}
}
