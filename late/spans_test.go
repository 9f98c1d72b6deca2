package late_test

import (
	"maps"
	"slices"
	"testing"

	"fenberry/api"
	"fenberry/late"
)

func expectWarmth(t *testing.T, name string, l api.Late, start, days int, want api.Span) {
	t.Helper()
	if s, e := late.Warmth(l, start, days); s != want || e != api.OK {
		t.Error(name, start, days, s, e, "instead of", want)
	}
}

func expectOxygen(t *testing.T, name string, l api.Late, start, days int, fresh []int, want ...api.Span) {
	t.Helper()
	if s, e := late.Oxygen(l, start, days, fresh); !slices.Equal(s, want) || e != api.OK {
		t.Error(name, start, days, fresh, s, e, "instead of", want)
	}
}

// P6.1: the chapter's examples.
func TestSpansExamples(t *testing.T) {
	l := example()
	expectWarmth(t, "example", l, 0, 3, span(1500, 2100))
	expectWarmth(t, "example", l, 0, 4, span(2500, 3300))
	expectOxygen(t, "example", l, 0, 4, nil, span(6460, 7600), span(4920, 6700), span(3380, 5800), span(1240, 4400))
	expectOxygen(t, "example", l, 0, 4, []int{1}, span(6460, 7600), span(7460, 8100), span(5920, 7200), span(3780, 5800))
}

// P6.1: weeds suffer by what is above Base only, each day and each end by itself.
func TestWarmthByHand(t *testing.T) {
	l := still(5)
	l.Warm = []api.Span{span(1000, 1000), span(900, 1100), span(1001, 1001), span(0, 999), span(1000, 5000)}
	for _, c := range []struct {
		base, start, days int
		want              api.Span
	}{
		{1000, 0, 0, span(0, 0)},
		{1000, 0, 1, span(0, 0)},
		{1000, 0, 2, span(0, 100)},
		{1000, 0, 3, span(1, 101)},
		{1000, 0, 4, span(1, 101)},
		{1000, 0, 5, span(1, 4101)},
		{1000, 2, 1, span(1, 1)},
		{1000, 3, 1, span(0, 0)},
		{1000, 3, 2, span(0, 4000)},
		{1000, 5, 0, span(0, 0)},
		{999, 0, 5, span(1+2+1, 1+101+2+4001)},
		{0, 0, 5, span(3901, 9100)},
		{5000, 0, 5, span(0, 0)},
		{4999, 0, 5, span(0, 1)},
	} {
		l.Base = c.base
		expectWarmth(t, "by hand", l, c.start, c.days, c.want)
	}
	full := still(40)
	for day := range full.Warm {
		full.Warm[day] = span(api.MaxWarmth, api.MaxWarmth)
	}
	expectWarmth(t, "the greatest", full, 0, 40, span(200000, 200000))
}

// oneDay returns a forecast of a day with so much warmth, and so much oxygen at first.
func oneDay(warm, rate, first api.Span) api.Late {
	return api.Late{Warm: []api.Span{warm}, Air: make([]api.Span, 1), Rate: rate, First: first, Full: api.MaxOxygen}
}

// P6.1: what is used is rounded down where it is least, and up where it is greatest.
func TestOxygenRounding(t *testing.T) {
	for _, c := range []struct {
		warm, rate api.Span
		want       api.Span
	}{
		{span(100, 100), span(1, 1), span(999, 999)},
		{span(99, 99), span(1, 1), span(999, 1000)},
		{span(101, 101), span(1, 1), span(998, 999)},
		{span(1, 1), span(1, 1), span(999, 1000)},
		{span(1, 1), span(99, 99), span(999, 1000)},
		{span(1, 1), span(100, 100), span(999, 999)},
		{span(0, 0), span(0, 1000), span(1000, 1000)},
		{span(0, 5000), span(0, 0), span(1000, 1000)},
		{span(0, 100), span(0, 5), span(995, 1000)},
		{span(33, 34), span(10, 12), span(995, 997)},
		{span(199, 201), span(1, 1), span(997, 999)},
		{span(150, 250), span(3, 7), span(982, 996)},
		{span(10, 20), span(10, 20), span(996, 999)},
	} {
		expectOxygen(t, "rounding", oneDay(c.warm, c.rate, span(1000, 1000)), 0, 1, nil, c.want)
	}
}

// P6.1: at least 0, and at most Full, behind what comes and what is used together.
func TestOxygenEnds(t *testing.T) {
	l := oneDay(span(100, 100), span(10, 10), span(0, 20))
	l.Full = 20
	for _, c := range []struct{ air, want api.Span }{
		{span(0, 0), span(0, 10)},
		{span(9, 9), span(0, 19)},
		{span(10, 10), span(0, 20)},
		{span(11, 11), span(1, 20)},
		{span(0, 11), span(0, 20)},
		{span(29, 29), span(19, 20)},
		{span(30, 30), span(20, 20)},
		{span(api.MaxOxygen, api.MaxOxygen), span(20, 20)},
	} {
		l.Air[0] = c.air
		expectOxygen(t, "ends", l, 0, 1, nil, c.want)
	}
	// The greatest use, and the greatest numbers at all.
	l = oneDay(span(5000, 5000), span(1000, 1000), span(20000, 20000))
	l.Air[0] = span(20000, 20000)
	expectOxygen(t, "all is used", l, 0, 1, nil, span(0, 0))
	l.Rate = span(399, 400)
	expectOxygen(t, "nearly full", l, 0, 1, nil, span(20000, 20000))
	l.Rate = span(401, 402)
	expectOxygen(t, "not full", l, 0, 1, nil, span(19900, 19950))
	// What was lost beyond an end does not come back.
	l = still(3)
	l.Full, l.First, l.Rate = 10, span(5, 5), span(100, 100)
	l.Warm[0], l.Air[1], l.Warm[2] = span(50, 50), span(20, 20), span(3, 3)
	expectOxygen(t, "beyond both ends", l, 0, 3, nil, span(0, 0), span(10, 10), span(7, 7))
	l = api.Late{Warm: []api.Span{span(5, 5)}, Air: []api.Span{span(9, 9)}, Rate: span(100, 100)}
	expectOxygen(t, "room for nothing", l, 0, 1, nil, span(0, 0))
}

// P6.1: on a fresh day the oxygen becomes that of fresh water, also if that is less, ahead of all else; a flood starts with First whenever it starts.
func TestOxygenFresh(t *testing.T) {
	l := still(4)
	l.Full, l.First, l.Fresh, l.Rate = 100, span(50, 60), span(30, 80), span(100, 100)
	for day := range l.Warm {
		l.Warm[day], l.Air[day] = span(10+day, 10+day), span(5, 6)
	}
	expectOxygen(t, "never", l, 0, 4, nil, span(45, 56), span(39, 51), span(32, 45), span(24, 38))
	expectOxygen(t, "first", l, 0, 4, []int{0}, span(25, 76), span(19, 71), span(12, 65), span(4, 58))
	expectOxygen(t, "last", l, 0, 4, []int{3}, span(45, 56), span(39, 51), span(32, 45), span(22, 73))
	expectOxygen(t, "two", l, 0, 4, []int{1, 2}, span(45, 56), span(24, 75), span(23, 74), span(15, 67))
	expectOxygen(t, "all", l, 0, 4, []int{0, 1, 2, 3}, span(25, 76), span(24, 75), span(23, 74), span(22, 73))
	expectOxygen(t, "later", l, 2, 2, nil, span(43, 54), span(35, 47))
	expectOxygen(t, "later, fresh", l, 2, 2, []int{3}, span(43, 54), span(22, 73))
	expectOxygen(t, "shorter", l, 0, 2, []int{1}, span(45, 56), span(24, 75))
	expectOxygen(t, "no days", l, 4, 0, nil)
	expectOxygen(t, "no days", l, 2, 0, []int{})
	l.Fresh = span(100, 100)
	expectOxygen(t, "full", l, 3, 1, []int{3}, span(92, 93))
	l.Air[3] = span(13, 20)
	expectOxygen(t, "full", l, 3, 1, []int{3}, span(100, 100))
}

// P6.1: fresh water is remembered on the days on which it came, up to the last one of 40.
func TestOxygenFreshOfMany(t *testing.T) {
	l := still(40)
	l.Full, l.Fresh, l.Rate = 1000, span(1000, 1000), span(100, 100)
	for day := range l.Warm {
		l.Warm[day] = span(1, 1)
	}
	for _, fresh := range [][]int{{39}, {0, 39}, {31, 32, 33}, {7, 20, 38}} {
		var want []api.Span
		oxygen := 0
		for day := range 40 {
			if slices.Contains(fresh, day) {
				oxygen = 1000
			}
			oxygen = max(0, oxygen-1)
			want = append(want, span(oxygen, oxygen))
		}
		expectOxygen(t, "of many", l, 0, 40, fresh, want...)
	}
}

// P6.1: as going through all that can be true.
func TestSpansAreJudge(t *testing.T) {
	eachSmall(func(seed uint64, r world) {
		l := r.someForecast()
		start, days := r.someFlood(l)
		fresh := r.someFresh(start, days)
		expectOxygen(t, "judge", l, start, days, fresh, judgeOxygen(judgeCourse(l, start, days, fresh))...)
		sums := slices.Sorted(maps.Keys(judgeWeeds(l, start, days)))
		expectWarmth(t, "judge", l, start, days, span(sums[0], sums[len(sums)-1]))
		if t.Failed() {
			t.Fatal(seed, l)
		}
	})
}
