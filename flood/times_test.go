package flood_test

import (
	"testing"

	"fenberry/api"
	"fenberry/flood"
)

// P7.2: the chapter's examples.
func TestTimesExamples(t *testing.T) {
	l := []api.Flooded{{Bed: 0, Filled: one(20), Done: span(120, 140)}, {Bed: 1, Filled: span(132, 152), Done: span(182, 212)}, {Bed: 2, Filled: span(192, 222), Done: span(392, 422)}}
	u := api.Used{Taken: span(1200, 1440), Leaked: span(50, 300), Spilled: span(340, 350), Left: one(800)}
	expectTimes(t, "example", example(), []int{0, 1, 2}, l, u, api.OK)
	expectTimes(t, "example", withReserve(example(), 1440), []int{0, 1, 2}, l, u, api.OK)
	expectTimes(t, "example", withReserve(example(), 1439), []int{0, 1, 2}, nil, api.Used{}, api.ErrShort)
	expectTimes(t, "example", example(), []int{0, 2, 1}, nil, api.Used{}, api.ErrNone)
}

// P7.2: one bed is filled from the reservoir only; the minutes are rounded up.
func TestTimesOfOneBed(t *testing.T) {
	for _, c := range []struct {
		need, inlet int
		leak, work  api.Span
		filled      int
		leaked      api.Span
	}{
		{10, 10, one(0), one(0), 1, one(0)},
		{10, 11, one(0), one(0), 1, one(0)},
		{10, 9, one(0), one(0), 2, one(0)},
		{10, 3, one(0), one(0), 4, one(0)},
		{1, api.MaxPipe, one(0), one(0), 1, one(0)},
		{api.MaxWater, api.MaxPipe, one(0), one(0), 64, one(0)},
		{api.MaxWater, api.MaxPipe - 1, one(0), one(0), 65, one(0)},
		{api.MaxWater, 1, one(0), one(0), api.MaxWater, one(0)},
		{10, 5, span(1, 2), one(0), 2, one(0)},
		{10, 5, span(1, 2), span(0, 3), 2, span(0, 6)},
		{10, 5, span(1, 2), span(2, 3), 2, span(2, 6)},
		{10, 5, span(0, 2), span(2, 3), 2, span(0, 6)},
		{10, 5, span(1, 5), span(2, 2), 2, span(2, 10)},
		{10, 5, span(1, 5), span(2, 3), 2, span(2, 10)},
		{10, 5, span(3, 4), span(4, 5), 2, one(10)},
		{10, 5, one(11), one(1), 2, one(10)},
		{api.MaxWater, api.MaxPipe, one(api.MaxLeak), one(api.MaxWorking), 64, one(1 << 34)},
	} {
		h := even(1)
		h.Bogs[0] = api.Bog{Need: c.need, Leak: c.leak, Work: works(c.work)}
		h.Inlet, h.Reserve = c.inlet, c.need
		l := []api.Flooded{{Filled: one(c.filled), Done: span(c.filled+c.work.Lo, c.filled+c.work.Hi)}}
		left := span(c.need-c.leaked.Hi, c.need-c.leaked.Lo)
		expectTimes(t, "one bed", h, []int{0}, l, api.Used{Taken: one(c.need), Leaked: c.leaked, Left: left}, api.OK)
		expectTimes(t, "one bed", withReserve(h, c.need-1), []int{0}, nil, api.Used{}, api.ErrShort)
	}
}

// P7.2: water goes to the next bed in the minutes that all it needs takes, however much comes out of the reservoir.
func TestTimesOfTwoBeds(t *testing.T) {
	for _, c := range []struct {
		name        string
		need, next  int
		leak        int
		rate        int
		filled      int
		taken, lost int
		spilled     int
	}{
		{"just enough", 10, 10, 0, 10, 1, 10, 0, 0},
		{"too much", 10, 4, 0, 4, 1, 10, 0, 6},
		{"too little", 10, 14, 0, 7, 2, 14, 0, 0},
		{"rounded up", 10, 10, 0, 3, 4, 10, 0, 0},
		{"fast", 10, 10, 0, 1000, 1, 10, 0, 0},
		{"leaked", 10, 10, 2, 5, 2, 14, 4, 0},
		{"less leaked than is too much", 10, 4, 2, 5, 1, 10, 4, 2},
		{"as much leaked", 10, 6, 2, 5, 2, 10, 4, 0},
		{"more leaked", 10, 7, 2, 5, 2, 11, 4, 0},
		{"empty just now", 10, 9, 5, 5, 2, 19, 10, 0},
		{"empty", 10, 9, 8, 5, 2, 19, 10, 0},
	} {
		h := even(2)
		h.Bogs[0] = api.Bog{Need: c.need, Leak: one(c.leak), Work: works(one(2))}
		h.Bogs[1].Need = c.next
		h.Rates[0][1], h.Rates[1][0], h.Reserve = c.rate, 0, c.taken
		l := []api.Flooded{{Bed: 0, Filled: one(1), Done: one(3)}, {Bed: 1, Filled: one(3 + c.filled), Done: one(3 + c.filled)}}
		u := api.Used{Taken: one(c.taken), Leaked: one(c.lost), Spilled: one(c.spilled), Left: one(c.next)}
		expectTimes(t, c.name, h, []int{0, 1}, l, u, api.OK)
		expectTimes(t, c.name, withReserve(h, c.taken-1), []int{0, 1}, nil, api.Used{}, api.ErrShort)
		expectTimes(t, c.name, withReserve(h, c.taken-1), []int{1, 0}, nil, api.Used{}, api.ErrNone)
	}
}

// P7.2: too much at the least leak, and too little at the greatest one; what spills is lost for later beds.
func TestTimesOfThreeBeds(t *testing.T) {
	h := even(3)
	h.Bogs[0] = api.Bog{Need: 10, Leak: span(1, 2), Work: works(span(1, 3))}
	h.Bogs[1] = api.Bog{Need: 7, Leak: span(0, 1), Work: works(span(2, 2))}
	h.Bogs[2] = api.Bog{Need: 9, Leak: span(0, 1), Work: works(span(0, 4))}
	h.Rates = [][]int{{0, 2, 0}, {0, 0, 9}, {0, 0, 0}}
	l := []api.Flooded{{Bed: 0, Filled: one(1), Done: span(2, 4)}, {Bed: 1, Filled: span(6, 8), Done: span(8, 10)}, {Bed: 2, Filled: span(9, 11), Done: span(9, 15)}}
	u := api.Used{Taken: span(12, 17), Leaked: span(1, 12), Spilled: span(0, 2), Left: span(5, 9)}
	h.Reserve = 17
	expectTimes(t, "three beds", h, []int{0, 1, 2}, l, u, api.OK)
	expectTimes(t, "three beds", withReserve(h, 16), []int{0, 1, 2}, nil, api.Used{}, api.ErrShort)
}

// P7.2: only the flumes from each bed to the next one count, and those in this direction.
func TestTimesFlumes(t *testing.T) {
	for _, order := range allOrders(4) {
		h := even(4)
		for i := range h.Rates {
			for j := range h.Rates[i] {
				h.Rates[i][j] = 0
			}
		}
		for i := range 3 {
			h.Rates[order[i]][order[i+1]] = 5
		}
		for _, other := range allOrders(4) {
			want := api.ErrNone
			if canBe(h, other) {
				want = api.OK
			}
			if _, _, e := flood.Times(h, other); e != want {
				t.Error(order, other, e)
			}
		}
		expectBest(t, "the only order", h, order, api.OK)
	}
}

// P7.2: the greatest numbers that there are.
func TestTimesGreatest(t *testing.T) {
	h := even(api.MaxBogs)
	var order []int
	var want []api.Flooded
	minute := 0
	for bed := range h.Bogs {
		h.Bogs[bed] = api.Bog{Need: api.MaxWater, Leak: span(0, api.MaxLeak), Work: works(span(0, api.MaxWorking))}
		for next := range h.Bogs {
			h.Rates[bed][next] = 1
		}
		order = append(order, bed)
		minute += api.MaxWater
		late := bed * api.MaxWorking
		want = append(want, api.Flooded{Bed: bed, Filled: span(minute, minute+late), Done: span(minute, minute+late+api.MaxWorking)})
	}
	h.Inlet = 1
	taken := api.MaxWater + 6<<34
	used := api.Used{Taken: span(api.MaxWater, taken), Leaked: span(0, 7<<34), Left: span(3<<34, api.MaxWater)}
	expectTimes(t, "greatest", withReserve(h, taken), order, want, used, api.OK)
	expectTimes(t, "greatest", withReserve(h, api.MaxAmount), order, want, used, api.OK)
	expectTimes(t, "greatest", withReserve(h, taken-1), order, nil, api.Used{}, api.ErrShort)
	expectThrough(t, "greatest", h, order, api.MaxAmount, 0, api.ErrShort)
	expectThrough(t, "greatest", withReserve(h, taken), order, api.MaxAmount, 7, api.OK)
	expectLeast(t, "greatest", h, taken, order, api.OK)
}

// P7.2: as going through all that can be true, minute by minute and litre by litre.
func TestTimesIsJudge(t *testing.T) {
	good, short, none, wide := 0, 0, 0, 0
	eachSmall(func(seed uint64, r world) {
		h := r.someHarvest()
		order := r.someOrder(h)
		if !canBe(h, order) {
			none++
			expectTimes(t, "judge", h, order, nil, api.Used{}, api.ErrNone)
			return
		}
		l, u := judgeTimes(h, order)
		expectTimes(t, "judge", withReserve(h, u.Taken.Hi), order, l, u, api.OK)
		expectTimes(t, "judge", withReserve(h, u.Taken.Hi-1), order, nil, api.Used{}, api.ErrShort)
		if u.Taken.Hi > h.Reserve {
			short++
			l, u = nil, api.Used{}
			expectTimes(t, "judge", h, order, l, u, api.ErrShort)
		} else {
			good++
			expectTimes(t, "judge", h, order, l, u, api.OK)
		}
		if u.Taken.Lo < u.Taken.Hi && u.Spilled.Lo < u.Spilled.Hi {
			wide++
		}
		if t.Failed() {
			t.Fatal(seed, h, order)
		}
	})
	if min(good, short, none, wide) < 20 {
		t.Error("too few", good, short, none, wide)
	}
}
