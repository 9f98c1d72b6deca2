package late_test

import (
	"slices"
	"testing"

	"fenberry/api"
	"fenberry/late"
)

func expectBest(t *testing.T, name string, l api.Late, wantStart, wantDays int, wantError api.Errno) {
	t.Helper()
	if start, days, e := late.Best(l); start != wantStart || days != wantDays || e != wantError {
		t.Error(name, start, days, e, "instead of", wantStart, wantDays, wantError)
	}
}

// P6.5: the chapter's example.
func TestBestExample(t *testing.T) { expectBest(t, "example", example(), 3, 2, api.OK) }

// warmDays returns a forecast in which weeds suffer by these numbers, and vines do not suffer.
func warmDays(kill int, warm ...int) api.Late {
	l := still(len(warm))
	l.Kill = kill
	for day, w := range warm {
		l.Warm[day] = span(w, w)
	}
	return l
}

// P6.5: the fewest days, of several floods the one that starts first.
func TestBestByHand(t *testing.T) {
	for _, c := range []struct {
		name        string
		l           api.Late
		start, days int
		e           api.Errno
	}{
		{"nothing", api.Late{}, 0, 0, api.OK},
		{"nothing to kill", warmDays(0, 5, 5, 5), 0, 0, api.OK},
		{"no days", warmDays(1), 0, 0, api.ErrNone},
		{"never warm enough", warmDays(16, 5, 5, 5), 0, 0, api.ErrNone},
		{"all days", warmDays(15, 5, 5, 5), 0, 3, api.OK},
		{"several", warmDays(10, 5, 5, 5), 0, 2, api.OK},
		{"several of one day", warmDays(5, 4, 5, 4, 5, 6), 1, 1, api.OK},
		{"fewer later", warmDays(10, 5, 5, 5, 9, 1, 10), 5, 1, api.OK},
		{"two of two days", warmDays(10, 4, 4, 4, 6, 1, 9), 2, 2, api.OK},
		{"the last days", warmDays(10, 1, 2, 3, 4, 6), 3, 2, api.OK},
		{"fewer, though warmer days are at both ends", warmDays(10, 9, 0, 0, 5, 5, 0, 9), 3, 2, api.OK},
	} {
		expectBest(t, c.name, c.l, c.start, c.days, c.e)
	}
}

// P6.5: the vines surely are not hurt, which may leave only a longer flood, a later one, or none.
func TestBestForVines(t *testing.T) {
	// Behind the day 0 there is none left; later on there is.
	l := warmDays(10, 10, 5, 5, 9, 9)
	l.Full, l.First, l.Fresh, l.Rate, l.Need = 10, span(10, 10), span(10, 10), span(50, 50), 5
	l.Air[0], l.Air[1], l.Air[2], l.Air[3], l.Air[4] = span(0, 0), span(2, 2), span(2, 2), span(4, 4), span(4, 4)
	expectBest(t, "one day is not hurt", l, 0, 1, api.OK)
	l.Need = 6
	expectBest(t, "two days later", l, 1, 2, api.OK)
	l.Bear = 1
	expectBest(t, "a day is borne", l, 0, 1, api.OK)
	// From the day 1 on 8 and 5 are left, from 2 on 7 and 5, from 3 on 8 and 8.
	l.Bear, l.Air[1], l.Air[2], l.Air[3] = 0, span(1, 1), span(0, 0), span(3, 3)
	expectBest(t, "still later", l, 3, 2, api.OK)
	l.Air[3].Lo = 0
	expectBest(t, "perhaps hurt", l, 0, 0, api.ErrNone)
	l.Kill = 9
	expectBest(t, "only the last day", l, 4, 1, api.OK)
	l.Need, l.Bear = api.MaxOxygen, 0
	expectBest(t, "any flood hurts", l, 0, 0, api.ErrNone)
	l.Kill = 0
	expectBest(t, "no flood hurts no vines", l, 0, 0, api.OK)
	l = loses(4, 8, 0)
	l.Kill = 4
	expectFreshen(t, "fresh water would help", l, 0, 2, []int{1}, api.OK)
	expectBest(t, "without fresh water", l, 0, 0, api.ErrNone)
}

// judgeBest tries all floods, the shorter ones first.
func judgeBest(l api.Late, isSure func(start, days int) bool) (start, days int, e api.Errno) {
	for days := range len(l.Warm) + 1 {
		for start := range len(l.Warm) - days + 1 {
			if isSure(start, days) {
				return start, days, api.OK
			}
		}
	}
	return 0, 0, api.ErrNone
}

// P6.5: as going through all floods, and all that can be true.
func TestBestIsJudge(t *testing.T) {
	some, later, none := 0, 0, 0
	eachSmall(func(seed uint64, r world) {
		l := r.someForecast()
		if seed%2 == 0 {
			l.Base, l.Need = r.IntN(20), r.IntN(l.Full/2+1)
		}
		start, days, e := judgeBest(l, func(start, days int) bool {
			return judgeDead(l, start, days) == 2 && judgeHurt(l, start, days, nil) == 0
		})
		expectBest(t, "judge", l, start, days, e)
		if t.Failed() {
			t.Fatal(seed, l)
		}
		switch {
		case e == api.ErrNone:
			none++
		case start > 0:
			later++
		case days > 0:
			some++
		}
	})
	if min(some, later, none) < 50 {
		t.Error("too few", some, later, none)
	}
}

// P6.5: as going through all floods, of as many days as there can be.
func TestBestOfManyIsJudge(t *testing.T) {
	some, none := 0, 0
	eachWorld(func(seed uint64, r world) {
		l := r.someForecast()
		start, days, e := judgeBest(l, func(start, days int) bool {
			weeds, vines, e := late.Tells(l, start, days, nil)
			return weeds == api.Surely && vines == api.No && e == api.OK
		})
		expectBest(t, "judge", l, start, days, e)
		if t.Failed() {
			t.Fatal(seed, l)
		}
		if e == api.ErrNone {
			none++
		} else if days > 1 {
			some++
		}
	})
	if min(some, none) < 100 {
		t.Error("too few", some, none)
	}
}

// P6.5: all 40 days.
func TestBestFull(t *testing.T) {
	l := still(40)
	for day := range l.Warm {
		l.Warm[day] = span(api.MaxWarmth, api.MaxWarmth)
	}
	l.Kill = 200000
	expectBest(t, "all days", l, 0, 40, api.OK)
	l.Need, l.Bear = 1, 40
	expectBest(t, "all days are borne", l, 0, 40, api.OK)
	l.Bear = 39
	expectBest(t, "all but one", l, 0, 0, api.ErrNone)
	l.Kill = 39 * 5000
	expectBest(t, "all but one", l, 0, 39, api.OK)
	l.Warm[0] = span(4999, 5000)
	expectBest(t, "all but the first one", l, 1, 39, api.OK)
	slices.Reverse(l.Warm)
	expectBest(t, "all but the last one", l, 0, 39, api.OK)
}
