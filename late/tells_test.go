package late_test

import (
	"maps"
	"slices"
	"testing"

	"fenberry/api"
	"fenberry/late"
)

func expectTells(t *testing.T, name string, l api.Late, start, days int, fresh []int, wantWeeds, wantVines int) {
	t.Helper()
	if weeds, vines, e := late.Tells(l, start, days, fresh); weeds != wantWeeds || vines != wantVines || e != api.OK {
		t.Error(name, start, days, fresh, weeds, vines, e, "instead of", wantWeeds, wantVines)
	}
}

// P6.2: the chapter's examples.
func TestTellsExamples(t *testing.T) {
	l := example()
	expectTells(t, "example", l, 0, 4, nil, 2, 1)
	expectTells(t, "example", l, 3, 2, nil, 2, 0)
	expectTells(t, "example", l, 3, 1, nil, 0, 0)
	expectTells(t, "fresh", l, 0, 4, []int{1}, 2, 0)
	if api.No != 0 || api.Perhaps != 1 || api.Surely != 2 {
		t.Error("numbers")
	}
}

// P6.2: weeds are dead from Kill on, that number too.
func TestTellsWeeds(t *testing.T) {
	l := example()
	for _, c := range []struct{ kill, weeds int }{{0, 2}, {1, 2}, {1499, 2}, {1500, 2}, {1501, 1}, {2099, 1}, {2100, 1}, {2101, 0}, {api.MaxKill, 0}} {
		l.Kill = c.kill
		expectTells(t, "kill", l, 0, 3, nil, c.weeds, 1)
	}
	for _, c := range []struct{ kill, weeds int }{{0, 2}, {1, 0}} {
		l.Kill = c.kill
		expectTells(t, "no days", l, 3, 0, nil, c.weeds, 0)
	}
	l.Kill = 1500
	expectTells(t, "with fresh water as well", l, 0, 3, []int{0, 1, 2}, 2, 0)
}

// P6.2: vines suffer below Need, and bear Bear days of it.
func TestTellsVines(t *testing.T) {
	l := example() // without fresh days 6460..7600, 4920..6700, 3380..5800, 1240..4400
	for _, c := range []struct{ need, bear, vines int }{
		{1240, 0, 0}, {1241, 0, 1}, {4400, 0, 1}, {4401, 0, 2},
		{3380, 1, 0}, {3381, 1, 1}, {5800, 1, 1}, {5801, 1, 2},
		{4920, 2, 0}, {4921, 2, 1}, {6700, 2, 1}, {6701, 2, 2},
		{6460, 3, 0}, {6461, 3, 1}, {7600, 3, 1}, {7601, 3, 2},
		{7601, 4, 0}, {api.MaxOxygen, 4, 0}, {api.MaxOxygen, 40, 0},
		{0, 0, 0},
	} {
		l.Need, l.Bear = c.need, c.bear
		expectTells(t, "need", l, 0, 4, nil, 2, c.vines)
	}
	l.Need, l.Bear = api.MaxOxygen, 0
	expectTells(t, "no days", l, 2, 0, nil, 0, 0)
	expectTells(t, "one day", l, 2, 1, nil, 0, 2)
	// What the vines suffered is not forgotten with fresh water.
	l.Need, l.Bear = 9000, 1
	expectTells(t, "not in a row", l, 0, 3, []int{0, 1, 2}, 1, 2)
}

// P6.2: suffering days are counted wherever they are in the flood.
func TestTellsScattered(t *testing.T) {
	l := still(5)
	l.Full, l.First, l.Fresh, l.Rate, l.Need = 10, span(5, 5), span(5, 5), span(100, 100), 5
	l.Warm[0], l.Warm[2], l.Warm[4] = span(1, 1), span(0, 1), span(1, 2)
	// Fresh on the days 1 and 3: 4, 5, 4..5, 5, 3..4.
	for bear, vines := range []int{2, 2, 1, 0} {
		l.Bear = bear
		expectTells(t, "scattered", l, 0, 5, []int{1, 3}, 2, vines)
	}
	l.Bear = 1
	expectTells(t, "up to the day 3", l, 0, 4, []int{1, 3}, 2, 1)
	expectTells(t, "up to the day 2", l, 0, 2, []int{1}, 2, 0)
}

// P6.2: as going through all that can be true.
func TestTellsIsJudge(t *testing.T) {
	var weeds, vines [3]int
	eachSmall(func(seed uint64, r world) {
		l := r.someForecast()
		start, days := r.someFlood(l)
		fresh := r.someFresh(start, days)
		if seed%2 == 0 {
			sums := slices.Sorted(maps.Keys(judgeWeeds(l, start, days)))
			l.Kill = r.between(sums[0], sums[len(sums)-1]+1)
		}
		dead, hurt := judgeDead(l, start, days), judgeHurt(l, start, days, fresh)
		weeds[dead]++
		vines[hurt]++
		expectTells(t, "judge", l, start, days, fresh, dead, hurt)
		if t.Failed() {
			t.Fatal(seed, l)
		}
	})
	for i := range 3 {
		if min(weeds[i], vines[i]) < 40 {
			t.Error("too few", weeds, vines)
		}
	}
}
