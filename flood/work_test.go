package flood_test

import (
	"math"
	"testing"

	"fenberry/api"
	"fenberry/flood"
)

func expectWork(t *testing.T, name string, h api.Harvest, bed int, want api.Span, wantError api.Errno) {
	t.Helper()
	if s, e := flood.Work(h, bed); s != want || e != wantError {
		t.Error(name, h.Winds, bed, s, e, "instead of", want, wantError)
	}
}

// P7.1: the chapter's example.
func TestWorkExample(t *testing.T) {
	h := example()
	expectWork(t, "example", h, 0, span(100, 120), api.OK)
	h.Winds = 3
	expectWork(t, "example", h, 0, span(100, 200), api.OK)
}

// P7.1: each set of winds; the least Lo and the greatest Hi may be of different winds, and what is between two spans belongs to the work.
func TestWorkByHand(t *testing.T) {
	h := even(2)
	h.Bogs[0].Work = []api.Span{span(5, 6), span(1, 2), span(9, 9), span(3, 7)}
	h.Bogs[1].Work = []api.Span{one(0), one(api.MaxWorking), one(8), one(8)}
	for winds, want := range [][2]api.Span{
		1:  {span(5, 6), one(0)},
		2:  {span(1, 2), one(16384)},
		3:  {span(1, 6), span(0, 16384)},
		4:  {span(9, 9), one(8)},
		5:  {span(5, 9), span(0, 8)},
		6:  {span(1, 9), span(8, 16384)},
		7:  {span(1, 9), span(0, 16384)},
		8:  {span(3, 7), one(8)},
		9:  {span(3, 7), span(0, 8)},
		10: {span(1, 7), span(8, 16384)},
		11: {span(1, 7), span(0, 16384)},
		12: {span(3, 9), one(8)},
		13: {span(3, 9), span(0, 8)},
		14: {span(1, 9), span(8, 16384)},
		15: {span(1, 9), span(0, 16384)},
	} {
		if h.Winds = winds; winds > 0 {
			expectWork(t, "winds", h, 0, want[0], api.OK)
			expectWork(t, "winds", h, 1, want[1], api.OK)
		}
	}
}

// P7.1: ErrRange unless bed is the index of a bed.
func TestWorkRange(t *testing.T) {
	for beds := 1; beds <= api.MaxBogs; beds++ {
		h := even(beds)
		for bed := -3; bed < 12; bed++ {
			want := api.ErrRange
			if bed >= 0 && bed < beds {
				want = api.OK
			}
			expectWork(t, "beds", h, bed, one(0), want)
		}
		for _, bed := range []int{math.MinInt, math.MaxInt, 64, -64, 1 << 32} {
			expectWork(t, "beds", h, bed, one(0), api.ErrRange)
		}
	}
}

// P7.1: neither flumes nor water make a difference.
func TestWorkOfWhatCannotBe(t *testing.T) {
	h := example()
	h.Reserve, h.Rates = 0, make([][]int, 3)
	for i := range h.Rates {
		h.Rates[i] = make([]int, 3)
	}
	expectWork(t, "no flumes", h, 0, span(100, 120), api.OK)
}

// P7.1: as the chapter says it.
func TestWorkIsJudge(t *testing.T) {
	eachWorld(func(seed uint64, r world) {
		h := r.someHarvest()
		for bed := range h.Bogs {
			expectWork(t, "judge", h, bed, judgeWork(h, bed), api.OK)
		}
		if t.Failed() {
			t.Fatal(seed, h)
		}
	})
}
