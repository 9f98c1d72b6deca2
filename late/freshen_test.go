package late_test

import (
	"math"
	"slices"
	"testing"

	"fenberry/api"
	"fenberry/late"
)

func expectFreshen(t *testing.T, name string, l api.Late, start, days int, want []int, wantError api.Errno) {
	t.Helper()
	if fresh, e := late.Freshen(l, start, days); !slices.Equal(fresh, want) || e != wantError {
		t.Error(name, start, days, fresh, e, "instead of", want, wantError)
	}
}

// P6.6: the chapter's example.
func TestFreshenExample(t *testing.T) { expectFreshen(t, "example", example(), 0, 4, []int{1}, api.OK) }

// loses returns a forecast of so many days, on each of which 2 are lost of at most 10.
func loses(days, need, bear int) api.Late {
	l := still(days)
	for day := range days {
		l.Warm[day] = span(2, 2)
	}
	l.Rate, l.Full, l.First, l.Fresh = span(100, 100), 10, span(10, 10), span(10, 10)
	l.Need, l.Bear = need, bear
	return l
}

// P6.6: the fewest fresh days, of several lists the first one; days of the forecast, not of the flood.
func TestFreshenByHand(t *testing.T) {
	for _, c := range []struct {
		name        string
		l           api.Late
		start, days int
		want        []int
		e           api.Errno
	}{
		{"no days", loses(12, 10, 0), 3, 0, nil, api.OK},
		{"no days at the end", loses(12, 10, 0), 12, 0, nil, api.OK},
		{"at first as fresh as fresh", loses(12, 8, 0), 0, 1, nil, api.OK},
		{"each day but the first one", loses(12, 8, 0), 0, 4, []int{1, 2, 3}, api.OK},
		{"each day of a later flood but the first one", loses(20, 8, 0), 7, 4, []int{8, 9, 10}, api.OK},
		{"each second day", loses(12, 6, 0), 0, 4, []int{2}, api.OK}, // 8 6 8 6
		{"of three days one is spare", loses(12, 6, 0), 0, 3, []int{1}, api.OK},
		{"up to 12 days", loses(20, 6, 0), 8, 12, []int{10, 12, 14, 16, 18}, api.OK},
		{"of 11 days one is spare", loses(20, 6, 0), 9, 11, []int{10, 12, 14, 16, 18}, api.OK},
		{"each day of 12", loses(20, 8, 0), 8, 12, []int{9, 10, 11, 12, 13, 14, 15, 16, 17, 18, 19}, api.OK},
		{"never enough", loses(12, 9, 0), 0, 1, nil, api.ErrNone},
		{"never enough, but borne", loses(12, 9, 3), 0, 3, nil, api.OK},
		{"never enough, and too long", loses(12, 9, 3), 0, 4, nil, api.ErrNone},
		{"a day is borne", loses(12, 8, 1), 0, 4, []int{1, 2}, api.OK},
		{"two days are borne", loses(12, 8, 2), 0, 4, []int{1}, api.OK},
		{"enough", loses(12, 2, 0), 0, 4, nil, api.OK}, // 8 6 4 2
		{"once", loses(12, 2, 0), 0, 5, []int{1}, api.OK},
		{"once in eight days", loses(12, 2, 0), 0, 8, []int{4}, api.OK},
		{"twice in nine days", loses(12, 2, 0), 0, 9, []int{1, 5}, api.OK},
		{"twice in eleven days", loses(12, 2, 0), 0, 11, []int{3, 7}, api.OK},
	} {
		expectFreshen(t, c.name, c.l, c.start, c.days, c.want, c.e)
	}
}

// P6.6: fresh water may have less oxygen; then it only harms.
func TestFreshenHarms(t *testing.T) {
	l := loses(4, 4, 0)
	l.Fresh = span(0, 10)
	expectFreshen(t, "not needed", l, 0, 3, nil, api.OK)
	expectFreshen(t, "harms", l, 0, 4, nil, api.ErrNone)
	l.Air[2] = span(9, 9)
	expectFreshen(t, "the air helps", l, 0, 4, nil, api.OK)
	l.First = span(3, 3)
	expectFreshen(t, "no help at first", l, 0, 4, nil, api.ErrNone)
	l.Fresh = span(6, 6)
	expectFreshen(t, "twice", l, 0, 4, []int{0, 1}, api.OK)
}

// P6.6: ErrRange for more than 12 days, behind the errors of the flood, and ahead of ErrNone.
func TestFreshenRange(t *testing.T) {
	for days := range 41 {
		e := api.OK
		if days > 12 {
			e = api.ErrRange
		}
		expectFreshen(t, "long", still(40), 0, days, nil, e)
		expectFreshen(t, "long, at the end", still(40), 40-days, days, nil, e)
		hopeless := still(40)
		hopeless.Need = 1
		if days > 0 && days <= 12 {
			e = api.ErrNone
		}
		expectFreshen(t, "long and hopeless", hopeless, 0, days, nil, e)
	}
	for _, f := range [][2]int{{-1, 1}, {0, -1}, {7, 0}, {6, 1}, {0, 7}, {3, 4}, {0, 13}, {math.MinInt, 0}, {0, math.MaxInt}, {math.MaxInt, math.MaxInt}} {
		expectFreshen(t, "no flood", example(), f[0], f[1], nil, api.ErrRange)
	}
}

// P6.6: as trying all lists, and all that can be true.
func TestFreshenIsJudge(t *testing.T) {
	var sizes [4]int
	none := 0
	eachSmall(func(seed uint64, r world) {
		l := r.someForecast()
		start, days := r.someFlood(l)
		if seed%2 == 0 {
			start, days = 0, len(l.Warm)
			l.Fresh, l.Need, l.Bear = span(l.Full-r.IntN(2), l.Full), r.IntN(l.Full*2/3), r.IntN(2)
			for day := range l.Air {
				l.Air[day] = r.someSpan(0, 3)
			}
		}
		e, want := api.ErrNone, []int(nil)
		for _, fresh := range allLists(start, days) {
			if judgeHurt(l, start, days, fresh) == 0 {
				e, want = api.OK, fresh
				break
			}
		}
		expectFreshen(t, "judge", l, start, days, want, e)
		if t.Failed() {
			t.Fatal(seed, l)
		}
		if e == api.OK {
			sizes[min(3, len(want))]++
		} else {
			none++
		}
	})
	if min(sizes[0], sizes[1], sizes[2], sizes[3], none) < 15 {
		t.Error("too few", sizes, none)
	}
}

// P6.6: as trying all lists of up to 12 days.
func TestFreshenOfManyIsJudge(t *testing.T) {
	var sizes [api.MaxFresh + 1]int
	for seed := range uint64(150) {
		r := newWorld(seed, plain())
		l := r.someForecast()
		start := r.IntN(len(l.Warm) + 1)
		days := min(len(l.Warm)-start, api.MaxFresh)
		l.Fresh, l.Need, l.Bear = span(l.Full-r.IntN(500), l.Full), r.IntN(l.Full*3/4), r.IntN(3)
		for day := range l.Air {
			l.Air[day] = r.someSpan(0, 1500)
		}
		e, want := api.ErrNone, []int(nil)
		for _, fresh := range allLists(start, days) {
			if _, vines, _ := late.Tells(l, start, days, fresh); vines == api.No {
				e, want = api.OK, fresh
				break
			}
		}
		sizes[len(want)]++
		expectFreshen(t, "judge", l, start, days, want, e)
		if t.Failed() {
			t.Fatal(seed, l)
		}
	}
	if min(sizes[1], sizes[2], sizes[3]) < 5 {
		t.Error("too few", sizes)
	}
}
