package permit_test

import (
	"slices"
	"testing"

	"fenberry/api"
	"fenberry/permit"
)

// P13.5: the chapter's example, and DOC.md's.
func TestScheduleExample(t *testing.T) {
	w := exampleWaiting()
	expectSchedule(t, "example", w, []int{5, 10, 13}, api.OK)
	w.reach = 3
	expectSchedule(t, "another reach", w, []int{5, 8, 11}, api.OK)
	w.nests = nil
	expectSchedule(t, "no nest", w, []int{5, 8, 11}, api.OK)
}

// P13.5: a window of n days and the sum that is in it; exactly the limit is not above it.
func TestScheduleWindows(t *testing.T) {
	w := waiting{limit: 100, to: 1 << 14}
	for _, c := range []struct {
		days        int
		loads, want []int
	}{
		{1, []int{100, 100, 100}, []int{0, 1, 2}},
		{2, []int{100, 100, 100}, []int{0, 2, 4}},
		{366, []int{100, 100, 100}, []int{0, 366, 732}},
		{3, []int{30, 30, 40, 30}, []int{0, 1, 2, 3}},
		{3, []int{30, 30, 41, 30}, []int{0, 1, 3, 4}},
		{3, []int{30, 30, 40, 31}, []int{0, 1, 2, 4}},
		{4, []int{50, 50, 50, 50}, []int{0, 1, 4, 5}},
		{4, []int{10, 90, 10, 90, 90}, []int{0, 1, 4, 5, 9}},
		{4, []int{90, 10, 90, 10}, []int{0, 1, 4, 5}},
		{5, []int{0, 0, 100, 0, 0, 0, 1}, []int{0, 1, 2, 3, 4, 5, 7}},
		{10, []int{1, 100, 100, 1}, []int{0, 10, 20, 30}},
	} {
		w.days, w.loads = c.days, c.loads
		expectSchedule(t, "window", w, c.want, api.OK)
	}
	w.limit, w.days, w.loads = 0, 9, []int{0, 0, 0}
	expectSchedule(t, "nothing", w, []int{0, 1, 2}, api.OK)
	w.loads[1] = 1
	expectSchedule(t, "more than nothing", w, nil, api.ErrNone)
}

// P13.5: there is a nest in the reach from its first day to its last one.
func TestScheduleNests(t *testing.T) {
	w := waiting{loads: []int{1, 1, 1}, reach: 7, days: 1, limit: 1, from: 4, to: 100}
	for _, c := range []struct {
		nests []api.Nest
		want  []int
	}{
		{[]api.Nest{{Reach: 7, From: 5, To: 5}}, []int{4, 6, 7}},
		{[]api.Nest{{Reach: 7, From: 0, To: 3}}, []int{4, 5, 6}},
		{[]api.Nest{{Reach: 7, From: 0, To: 4}}, []int{5, 6, 7}},
		{[]api.Nest{{Reach: 7, From: 6, To: 9}, {Reach: 7, From: 4, To: 4}}, []int{5, 10, 11}},
		{[]api.Nest{{Reach: 7, From: 2, To: 20}, {Reach: 7, From: 10, To: 30}, {Reach: 7, From: 32, To: 32}}, []int{31, 33, 34}},
		{[]api.Nest{{Reach: 7, From: 2, To: 40}, {Reach: 7, From: 10, To: 30}}, []int{41, 42, 43}},
		{[]api.Nest{{Reach: 6, From: 0, To: 90}, {Reach: 8, From: 0, To: 90}, {Reach: 0, From: 0, To: 90}, {Reach: 63, From: 0, To: 90}}, []int{4, 5, 6}},
		{[]api.Nest{{Reach: 7, From: 0, To: 97}}, []int{98, 99, 100}},
		{[]api.Nest{{Reach: 7, From: 0, To: 1 << 14}}, nil},
		{[]api.Nest{{Reach: 7, From: 0, To: 98}}, nil},
	} {
		w.nests = c.nests
		e := api.OK
		if c.want == nil {
			e = api.ErrNone
		}
		expectSchedule(t, "nests", w, c.want, e)
	}
	// A load of nothing cannot go on such a day either, and windows go on over nests.
	w.nests, w.loads, w.limit = []api.Nest{{Reach: 7, From: 5, To: 6}}, []int{0, 0}, 0
	expectSchedule(t, "nothing", w, []int{4, 7}, api.OK)
	w.loads, w.limit, w.days = []int{60, 60}, 100, 3
	expectSchedule(t, "over nests", w, []int{4, 7}, api.OK)
	w.days = 4
	expectSchedule(t, "over nests", w, []int{4, 8}, api.OK)
	w.reach, w.nests[0].Reach = 63, 63
	expectSchedule(t, "the last reach", w, []int{4, 8}, api.OK)
	w.reach, w.nests[0].Reach = 0, 0
	expectSchedule(t, "the first reach", w, []int{4, 8}, api.OK)
}

// P13.5: there is none if the days are too few, or a load is above the limit by itself.
func TestScheduleNone(t *testing.T) {
	w := exampleWaiting()
	w.to = 13
	expectSchedule(t, "just enough", w, []int{5, 10, 13}, api.OK)
	w.to = 12
	expectSchedule(t, "too few", w, nil, api.ErrNone)
	w.from, w.to = 9, 8
	expectSchedule(t, "no day", w, nil, api.ErrNone)
	w.loads = nil
	expectSchedule(t, "nothing waits", w, nil, api.OK)
	w = waiting{loads: []int{100}, days: 1, limit: 100, from: 1 << 14, to: 1 << 14}
	expectSchedule(t, "one day", w, []int{1 << 14}, api.OK)
	w.loads = []int{100, 0}
	expectSchedule(t, "two on one day", w, nil, api.ErrNone)
	w.from, w.loads = 0, []int{101}
	expectSchedule(t, "too much", w, nil, api.ErrNone)
	w.loads = []int{1, 2, 101, 3}
	expectSchedule(t, "too much", w, nil, api.ErrNone)
}

// P13.5, R5: the greatest numbers are exact.
func TestScheduleAtLimits(t *testing.T) {
	w := waiting{loads: make([]int, 64), days: 366, limit: 1 << 56, to: 1 << 14}
	var last, rising []int
	for i := range w.loads {
		w.loads[i] = 1 << 56
		last = append(last, 366*i)
		rising = append(rising, 1<<14-63+i)
	}
	// 44 times 366 is the last day that there is.
	expectSchedule(t, "all", w, nil, api.ErrNone)
	w.loads = w.loads[:45]
	expectSchedule(t, "as many as can", w, last[:45], api.OK)
	w.loads = append(w.loads, 0)
	expectSchedule(t, "one more", w, append(slices.Clone(last[:45]), 44*366+1), api.OK)
	w.loads = make([]int, 64)
	for i := range w.loads {
		w.loads[i] = 1 << 50
	}
	w.from = 1<<14 - 63
	expectSchedule(t, "all together", w, rising, api.OK)
	w.limit--
	expectSchedule(t, "one too much", w, nil, api.ErrNone)
	w.from -= 400
	if l, e := w.schedule(); e != api.OK || l[62] != w.from+62 || l[63] != w.from+366 {
		t.Error("one too much", l, e)
	}
}

// P13.5: ErrLong comes first, then ErrArg, then ErrRange.
func TestScheduleErrors(t *testing.T) {
	for name, c := range map[string]struct {
		least, most int
		field       func(w *waiting) *int
	}{
		"load":      {0, 1 << 56, func(w *waiting) *int { return &w.loads[0] }},
		"last load": {0, 1 << 56, func(w *waiting) *int { return &w.loads[2] }},
		"limit":     {0, 1 << 56, func(w *waiting) *int { return &w.limit }},
		"reach":     {0, 63, func(w *waiting) *int { return &w.reach }},
		"days":      {1, 366, func(w *waiting) *int { return &w.days }},
		"from":      {0, 1 << 14, func(w *waiting) *int { return &w.from }},
		"to":        {0, 1 << 14, func(w *waiting) *int { return &w.to }},
	} {
		for _, n := range append(strangeNumbers(), 365, 3) {
			w := exampleWaiting()
			*c.field(&w) = n
			valid := n >= c.least && n <= c.most
			l, e := w.schedule()
			if valid == (e == api.ErrRange) || valid && e != api.OK && e != api.ErrNone || e != api.OK && len(l) > 0 {
				t.Error(name, n, l, e)
			}
			w.nests[0].To = 7
			expectSchedule(t, name, w, nil, api.ErrArg)
			w.loads = append(w.loads, make([]int, 62)...)
			expectSchedule(t, name, w, nil, api.ErrLong)
			w.nests = nil
			expectSchedule(t, name, w, nil, api.ErrLong)
		}
	}
	// A range comes ahead of that there is none.
	w := waiting{loads: []int{5, -1}, days: 1, limit: 1}
	expectSchedule(t, "range", w, nil, api.ErrRange)
	for n, want := range map[int]api.Errno{0: api.OK, 1: api.OK, 63: api.OK, 64: api.OK, 65: api.ErrLong, 1000: api.ErrLong} {
		if _, e := permit.Schedule(make([]int, n), nil, 0, 1, 0, 0, 100); e != want {
			t.Error("many", n, e, want)
		}
	}
}

// P13.5, P13.8: the first of all schedules; none has a load on an earlier day.
func TestScheduleIsFirst(t *testing.T) {
	many, none := 0, 0
	eachSmall(func(seed uint64, r world) {
		w := r.someWaiting()
		got, e := w.schedule()
		found := 0
		w.eachSchedule(func(l []int) {
			if found == 0 && !slices.Equal(l, got) {
				t.Error("not the first one", got, l)
			}
			for i, day := range l {
				if i < len(got) && day < got[i] {
					t.Error("earlier", got, l)
				}
			}
			found++
		})
		if (found == 0) != (e == api.ErrNone) || e != api.OK && e != api.ErrNone || e != api.OK && len(got) > 0 {
			t.Error("error", e, found)
		}
		if found > 1 {
			many++
		} else if found == 0 {
			none++
		}
		if t.Failed() {
			t.Fatal(seed, w)
		}
	})
	if min(many, none) < 100 {
		t.Error("too few", many, none)
	}
}

// P13.5: as pushing each load to a later day until nothing is in its way.
func TestScheduleIsJudge(t *testing.T) {
	some, none := 0, 0
	eachWorld(func(seed uint64, r world) {
		w := r.someWaiting()
		want, e := judgeSchedule(w)
		expectSchedule(t, "judge", w, want, e)
		if e == api.OK && !w.isSchedule(want) {
			t.Error("no schedule", w, want)
		}
		if e == api.OK && len(want) > 2 {
			some++
		} else if e == api.ErrNone {
			none++
		}
		if t.Failed() {
			t.Fatal(seed)
		}
	})
	if min(some, none) < 100 {
		t.Error("too few", some, none)
	}
}

// P13.5, P13.1: what goes as a schedule says passes no limit, but with one of the loads a day earlier something is in the way.
func TestScheduleKeepsPermit(t *testing.T) {
	eachWorld(func(seed uint64, r world) {
		w := r.someWaiting()
		l, e := w.schedule()
		if e != api.OK {
			return
		}
		var out []api.Discharge
		for i, day := range l {
			out = append(out, lets(day, w.loads[i], w.loads[i]))
		}
		if slices.ContainsFunc(w.loads, func(n int) bool { return n > 1<<30 }) {
			return
		}
		expectPassed(t, "kept", out, w.days, w.limit, 0, 0, api.ErrNone)
		for i := range l {
			earlier := slices.Clone(l)
			earlier[i]--
			if w.isSchedule(earlier) {
				t.Error("earlier", w, l, i)
			}
		}
		if t.Failed() {
			t.Fatal(seed)
		}
	})
}
