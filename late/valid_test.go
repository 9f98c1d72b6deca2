package late_test

import (
	"math"
	"slices"
	"testing"

	"fenberry/api"
	"fenberry/late"
)

// answers calls all functions and returns their errors; Best is the only one that is not told a flood.
func answers(t *testing.T, l api.Late, start, days int, fresh []int) (best api.Errno, others []api.Errno) {
	t.Helper()
	warmth, e1 := late.Warmth(l, start, days)
	oxygen, e2 := late.Oxygen(l, start, days, fresh)
	weeds, vines, e3 := late.Tells(l, start, days, fresh)
	drowned, e4 := late.Drowned(l, start)
	bears, e5 := late.Bears(l, start)
	list, e6 := late.Freshen(l, start, days)
	first, length, best := late.Best(l)
	for i, zero := range []bool{warmth == api.Span{}, len(oxygen) == 0, weeds == 0 && vines == 0, drowned == 0, bears == 0, len(list) == 0, first == 0 && length == 0} {
		if e := []api.Errno{e1, e2, e3, e4, e5, e6, best}[i]; e != api.OK && !zero {
			t.Error("a result with an error", i, e, l)
		}
	}
	return best, []api.Errno{e1, e2, e3, e4, e5, e6}
}

// allTake checks that all functions take a forecast, or that each of them returns ErrArg, also if its other arguments are beyond their ranges.
func allTake(t *testing.T, name string, valid bool, l api.Late) {
	t.Helper()
	for _, n := range []int{0, -1, 41, math.MaxInt} {
		best, others := answers(t, l, n, n, []int{n})
		for i, e := range append(others, best) {
			if valid != (e != api.ErrArg) {
				t.Error(name, i, n, e)
			}
		}
	}
}

// numbers checks that all functions take the example with a number changed, or that none does.
func numbers(t *testing.T, name string, field func(l *api.Late) *int, valid bool, values ...int) {
	t.Helper()
	for _, n := range values {
		l := example()
		*field(&l) = n
		allTake(t, name, valid, l)
	}
}

// spans checks that all functions take the example with spans within 0 to most, and no other ones.
func spans(t *testing.T, name string, most int, field func(l *api.Late) *api.Span) {
	t.Helper()
	for _, s := range []api.Span{{}, {Hi: 1}, {Lo: 1, Hi: 1}, {Hi: most}, {Lo: most, Hi: most}, {Lo: 7, Hi: most - 1}} {
		l := example()
		*field(&l) = s
		allTake(t, name, true, l)
	}
	for _, s := range []api.Span{{Lo: -1}, {Lo: -1, Hi: -1}, {Lo: 1}, {Lo: most, Hi: most - 1}, {Hi: most + 1}, {Lo: most + 1, Hi: most + 1}, {Hi: -1}, {Lo: math.MinInt, Hi: math.MaxInt}, {Lo: math.MaxInt, Hi: math.MinInt}, {Lo: math.MinInt, Hi: 5}, {Lo: 5, Hi: math.MaxInt}} {
		l := example()
		*field(&l) = s
		allTake(t, name, false, l)
	}
}

func TestValidSpans(t *testing.T) {
	for day := range 6 {
		spans(t, "warm", api.MaxWarmth, func(l *api.Late) *api.Span { return &l.Warm[day] })
		spans(t, "air", api.MaxOxygen, func(l *api.Late) *api.Span { return &l.Air[day] })
	}
	spans(t, "rate", api.MaxRate, func(l *api.Late) *api.Span { return &l.Rate })
	spans(t, "first", example().Full, func(l *api.Late) *api.Span { return &l.First })
	spans(t, "fresh", example().Full, func(l *api.Late) *api.Span { return &l.Fresh })
}

func TestValidNumbers(t *testing.T) {
	full := func(l *api.Late) *int { return &l.Full }
	numbers(t, "full", full, true, 9000, 9001, api.MaxOxygen)
	numbers(t, "full", full, false, math.MinInt, -1, 0, 8499, 8500, 8999, api.MaxOxygen+1, math.MaxInt)
	for _, c := range []struct {
		name  string
		most  int
		field func(l *api.Late) *int
	}{
		{"base", 5000, func(l *api.Late) *int { return &l.Base }},
		{"kill", 1 << 20, func(l *api.Late) *int { return &l.Kill }},
		{"need", 20000, func(l *api.Late) *int { return &l.Need }},
		{"bear", 40, func(l *api.Late) *int { return &l.Bear }},
	} {
		numbers(t, c.name, c.field, true, 0, 1, c.most-1, c.most)
		numbers(t, c.name, c.field, false, math.MinInt, -1, c.most+1, math.MaxInt)
	}
	allTake(t, "zero", true, api.Late{})
	empty := api.Late{Full: -1}
	allTake(t, "less than nothing", false, empty)
	empty = api.Late{First: span(0, 1)}
	allTake(t, "more than full", false, empty)
	empty = api.Late{Fresh: span(0, 1)}
	allTake(t, "fresher than full", false, empty)
}

// Need may be more than there can be, and Kill more than can be.
func TestValidBeyondReach(t *testing.T) {
	l := example()
	l.Full, l.First, l.Fresh, l.Need, l.Kill = 10, span(0, 10), span(10, 10), api.MaxOxygen, api.MaxKill
	allTake(t, "beyond reach", true, l)
}

func TestValidDays(t *testing.T) {
	for _, days := range []int{0, 1, 39, 40} {
		allTake(t, "days", true, still(days))
	}
	for _, days := range []int{41, 42, 64, 65, 1000} {
		allTake(t, "days", false, still(days))
	}
	for _, c := range [][2]int{{0, 1}, {1, 0}, {6, 5}, {5, 6}, {40, 41}, {41, 40}, {40, 0}, {0, 40}} {
		l := still(c[0])
		l.Air = make([]api.Span, c[1])
		allTake(t, "as many", false, l)
	}
	l := still(40)
	l.Warm[39].Hi = api.MaxWarmth + 1
	allTake(t, "the last day", false, l)
	l = still(40)
	l.Air[39].Lo = -1
	allTake(t, "the last day", false, l)
}

// isFlood reports whether a start and days are a flood, as the chapter says it.
func isFlood(l api.Late, start, days int) bool {
	for s := 0; s <= len(l.Warm); s++ {
		for d := 0; s+d <= len(l.Warm); d++ {
			if s == start && d == days {
				return true
			}
		}
	}
	return false
}

// isFresh reports whether a list is of fresh days of a flood, as the chapter says it.
func isFresh(start, days int, fresh []int) bool {
	return slices.ContainsFunc(allLists(start, days), func(l []int) bool { return slices.Equal(l, fresh) })
}

// ErrRange unless the start and the days are a flood; of Drowned and Bears: the start one of a flood.
func TestFloods(t *testing.T) {
	for _, l := range []api.Late{example(), {}, still(1), still(13), still(40)} {
		floods := strangeNumbers()
		for n := range 15 {
			floods = append(floods, n)
		}
		for _, start := range floods {
			for _, days := range floods {
				_, e := answers(t, l, start, days, nil)
				flood := isFlood(l, start, days)
				begins := isFlood(l, start, 0)
				for i, want := range []bool{flood, flood, flood, begins, begins, flood && days <= 12} {
					if want != (e[i] != api.ErrRange) {
						t.Error("flood", len(l.Warm), start, days, i, e[i])
					}
				}
			}
		}
	}
}

// ErrRange unless the fresh days are a strictly rising list of days of the flood.
func TestFreshDays(t *testing.T) {
	expect := func(l api.Late, start, days int, fresh []int, valid bool) {
		t.Helper()
		want := api.ErrRange
		if valid {
			want = api.OK
		}
		s, e := late.Oxygen(l, start, days, fresh)
		_, _, f := late.Tells(l, start, days, fresh)
		if e != want || f != want || valid != (len(s) > 0) && days > 0 {
			t.Error("fresh", start, days, fresh, e, f, s)
		}
	}
	l := example()
	for _, c := range []struct {
		fresh []int
		valid bool
	}{
		{nil, true}, {[]int{}, true}, {[]int{2}, true}, {[]int{4}, true}, {[]int{2, 4}, true}, {[]int{2, 3, 4}, true},
		{[]int{0}, false}, {[]int{1}, false}, {[]int{5}, false}, {[]int{6}, false}, {[]int{2, 2}, false}, {[]int{3, 2}, false}, {[]int{4, 3}, false}, {[]int{2, 3, 3}, false}, {[]int{2, 3, 4, 5}, false}, {[]int{2, 4, 3}, false}, {[]int{1, 2}, false},
		{[]int{-1}, false}, {[]int{math.MinInt}, false}, {[]int{math.MaxInt}, false}, {[]int{2, math.MinInt}, false}, {[]int{2, math.MaxInt}, false}, {[]int{66}, false}, {[]int{-62}, false}, {[]int{2, 67}, false},
		{slices.Repeat([]int{2}, 1000), false},
	} {
		expect(l, 2, 3, c.fresh, c.valid)
		if c.valid != isFresh(2, 3, c.fresh) {
			t.Error("the test contradicts itself", c)
		}
	}
	expect(l, 0, 6, []int{0, 1, 2, 3, 4, 5}, true)
	expect(l, 0, 6, []int{0, 5}, true)
	expect(l, 5, 1, []int{5}, true)
	for start := range 7 {
		for _, day := range []int{-1, 0, start - 1, start, start + 1} {
			expect(l, start, 0, []int{day}, false)
		}
	}
	var all []int
	for day := range api.MaxLateDays {
		all = append(all, day)
	}
	expect(still(40), 0, 40, all, true)
	expect(still(40), 0, 40, append(all, 40), false)
	expect(still(40), 0, 39, all, false)
	expect(still(40), 1, 39, all, false)
}

// P1, R2: no function panics, and none gives a result with an error.
func TestStrangeArguments(t *testing.T) {
	for seed := range uint64(2000) {
		r := newWorld(seed, plain())
		l := r.someForecast()
		strange := func() int { return strangeNumbers()[r.IntN(len(strangeNumbers()))] }
		for range r.IntN(3) {
			field := []*int{&l.Rate.Lo, &l.Rate.Hi, &l.First.Lo, &l.First.Hi, &l.Fresh.Lo, &l.Fresh.Hi, &l.Full, &l.Base, &l.Kill, &l.Need, &l.Bear}[r.IntN(11)]
			*field = strange()
		}
		if r.IntN(4) == 0 && len(l.Warm) > 0 {
			l.Warm[r.IntN(len(l.Warm))].Hi = strange()
			l.Air[r.IntN(len(l.Air))].Lo = strange()
		}
		start, days := r.someFlood(l)
		if r.IntN(2) == 0 {
			start = strange()
		}
		if r.IntN(2) == 0 {
			days = strange()
		}
		answers(t, l, start, days, []int{strange(), strange()})
	}
}
