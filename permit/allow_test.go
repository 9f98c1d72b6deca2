package permit_test

import (
	"slices"
	"testing"

	"fenberry/api"
	"fenberry/permit"
)

// P13.2: the chapter's examples.
func TestAllowExamples(t *testing.T) {
	l := exampleDischarges()
	expectAllow(t, "in 6 days", l, 6, 250000, 13, 48000, api.OK)
	expectAllow(t, "in 3 days", l, 3, 250000, 20, 250000, api.OK)
	expectAllow(t, "in 3 days", l, 3, 100000, 11, 0, api.ErrLimit)
	expectAllow(t, "at the limit", l, 3, 122000, 11, 0, api.OK)
	expectAllow(t, "at the limit", l, 3, 121999, 11, 0, api.ErrLimit)
	expectAllow(t, "nothing", nil, 366, 5, 7, 5, api.OK)
	expectAllow(t, "nothing", nil, 1, 0, 0, 0, api.OK)
	expectAllow(t, "nothing", nil, 1, 1<<56, 1<<14, 1<<56, api.OK)
}

// P13.2: only windows with this day count, those that begin with it and those that end with it among them.
func TestAllowWindows(t *testing.T) {
	for _, days := range []int{1, 2, 3, 8, 366} {
		l := []api.Discharge{lets(1000, 0, 70)}
		for day := 990 - days; day <= 1010+days; day++ {
			left, e := 100, api.OK
			if day > 1000-days && day < 1000+days {
				left = 30
			}
			expectAllow(t, "fits", l, days, 100, day, left, e)
			if left == 30 {
				left, e = 0, api.ErrLimit
			} else {
				left = 69
			}
			expectAllow(t, "does not fit", l, days, 69, day, left, e)
		}
	}
}

// P13.2: the fullest window decides, wherever the day is in it.
func TestAllowFullest(t *testing.T) {
	l := []api.Discharge{lets(10, 1, 10), lets(12, 1, 20), lets(14, 1, 30), lets(16, 1, 15)}
	for day, want := range map[int]int{7: 100, 8: 90, 9: 90, 10: 70, 11: 70, 12: 50, 13: 50, 14: 50, 15: 55, 16: 55, 17: 85, 18: 85, 19: 100} {
		expectAllow(t, "three days", l, 3, 100, day, want, api.OK)
	}
	for day, want := range map[int]int{6: 90, 7: 90, 8: 70, 9: 70, 10: 40, 11: 40, 12: 35, 13: 35, 14: 35, 15: 35, 16: 35, 17: 55, 18: 55, 19: 85, 20: 85, 21: 100, 5: 100} {
		expectAllow(t, "five days", l, 5, 100, day, want, api.OK)
	}
	together := []api.Discharge{lets(10, 1, 10), lets(9, 0, 7), lets(10, 1, 10), lets(11, 0, 6)}
	for day, want := range map[int]int{8: 93, 9: 73, 10: 73, 11: 74, 12: 94} {
		expectAllow(t, "on one day", together, 2, 100, day, want, api.OK)
	}
}

// P13.2: a window without this day may be above the limit.
func TestAllowBesideOthers(t *testing.T) {
	l := []api.Discharge{lets(10, 500, 500), lets(20, 0, 30)}
	expectAllow(t, "behind", l, 3, 100, 13, 100, api.OK)
	expectAllow(t, "behind", l, 3, 100, 12, 0, api.ErrLimit)
	expectAllow(t, "ahead", l, 3, 100, 7, 100, api.OK)
	expectAllow(t, "ahead", l, 3, 100, 8, 0, api.ErrLimit)
	expectAllow(t, "ahead", l, 8, 100, 18, 70, api.OK)
	expectAllow(t, "between", l, 8, 100, 17, 0, api.ErrLimit)
}

// P13.2, R5: days and numbers at their limits.
func TestAllowAtLimits(t *testing.T) {
	const most = 1 << 30 * 100000
	l := make([]api.Discharge, 64)
	for i := range l {
		l[i] = api.Discharge{Day: 1<<14 - i, Water: exact(1 << 30), Content: exact(100000)}
	}
	expectAllow(t, "last day", l, 64, 1<<56, 1<<14, 1<<56-64*most, api.OK)
	expectAllow(t, "last day", l, 366, 64*most, 1<<14, 0, api.OK)
	expectAllow(t, "last day", l, 366, 64*most-1, 1<<14, 0, api.ErrLimit)
	expectAllow(t, "one day", l, 1, most, 1<<14-63, 0, api.OK)
	expectAllow(t, "one day", l, 1, most, 1<<14-64, most, api.OK)
	early := []api.Discharge{lets(0, 1, 2), lets(365, 1, 4)}
	expectAllow(t, "first day", early, 366, 10, 0, 4, api.OK)
	expectAllow(t, "first day", early, 365, 10, 0, 8, api.OK)
	expectAllow(t, "first day", early, 365, 10, 1, 6, api.OK)
}

// P13.2: so many days, limits and days there can be.
func TestAllowErrors(t *testing.T) {
	for _, n := range append(strangeNumbers(), 365, 3) {
		check := func(name string, days, limit, day int, valid bool) {
			t.Helper()
			_, e := permit.Allow(nil, days, limit, day)
			if valid != (e == api.OK) || !valid && e != api.ErrRange {
				t.Error(name, n, e)
			}
			// It comes ahead of the limit, that is passed.
			if _, e := permit.Allow([]api.Discharge{lets(3, 1000, 1000)}, days, limit, day); !valid && e != api.ErrRange {
				t.Error(name, n, e)
			}
		}
		check("days", n, 10, 3, n >= 1 && n <= 366)
		check("limit", 3, n, 3, n >= 0 && n <= 1<<56)
		check("day", 3, 10, n, n >= 0 && n <= 1<<14)
	}
}

// P13.2: as going through all windows with the day.
func TestAllowIsJudge(t *testing.T) {
	some, none := 0, 0
	eachWorld(func(seed uint64, r world) {
		l, days := r.someDischarges(), r.someDays()
		for range 4 {
			day, limit := r.upTo(r.day), r.someLimit(l, days)
			want, e := judgeAllow(l, days, limit, day)
			expectAllow(t, "judge", l, days, limit, day, want, e)
			if e == api.ErrLimit {
				none++
			} else if want < limit {
				some++
			}
		}
		if t.Failed() {
			t.Fatal(seed)
		}
	})
	if min(some, none) < 100 {
		t.Error("too few", some, none)
	}
}

// added returns discharges and more of them that let out exactly so much on a day.
func added(l []api.Discharge, day, load int) []api.Discharge {
	more := slices.Clone(l)
	for ; load > 1<<30; load %= 100000 {
		more = append(more, api.Discharge{Day: day, Water: exact(min(1<<30, load/100000)), Content: exact(100000)})
		if load > 1<<30*100000 {
			return nil
		}
	}
	return append(more, lets(day, load, load))
}

// P13.8: with what Allow says, and not with one microgram more, no window with this day can be above the limit.
func TestAllowIsAll(t *testing.T) {
	checked := 0
	eachWorld(func(seed uint64, r world) {
		l, days, day := r.someDischarges(), r.someDays(), r.upTo(r.day)
		limit := r.someLimit(l, days)
		n, e := permit.Allow(l, days, limit, day)
		with, beyond := added(l, day, n), added(l, day, n+1)
		if e != api.OK || max(len(with), len(beyond)) > 64 || with == nil || beyond == nil {
			return
		}
		expectAllow(t, "with it", with, days, limit, day, 0, api.OK)
		expectAllow(t, "with one more", beyond, days, limit, day, 0, api.ErrLimit)
		if _, _, e := permit.Passed(with, days, limit); e == api.OK {
			// Only windows without the day are above the limit, and those were above it before.
			_, was, e := permit.Passed(l, days, limit)
			_, is, _ := permit.Passed(with, days, limit)
			if e != api.OK || was != is {
				t.Error("because of it", seed, l, days, limit, day, n)
			}
		}
		if _, perhaps, e := permit.Passed(beyond, days, limit); e != api.OK || perhaps >= day+days {
			t.Error("not because of it", seed, l, days, limit, day, n)
		}
		checked++
		if t.Failed() {
			t.Fatal(seed)
		}
	})
	if checked < 200 {
		t.Error("too few", checked)
	}
}
