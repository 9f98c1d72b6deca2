package flood_test

import (
	"math"
	"slices"
	"testing"

	"fenberry/api"
	"fenberry/flood"
)

// answers calls all functions and returns the errors of Work, Times, Through, Best and Least.
func answers(t *testing.T, h api.Harvest, bed int, order []int, minute int) [5]api.Errno {
	t.Helper()
	work, e1 := flood.Work(h, bed)
	times, used, e2 := flood.Times(h, order)
	through, e3 := flood.Through(h, order, minute)
	best, e4 := flood.Best(h)
	water, least, e5 := flood.Least(h)
	all := [5]api.Errno{e1, e2, e3, e4, e5}
	for i, zero := range []bool{work == api.Span{}, len(times) == 0 && used == api.Used{}, through == 0, len(best) == 0, water == 0 && len(least) == 0} {
		if all[i] != api.OK && !zero {
			t.Error("a result with an error", i, all[i], h)
		}
	}
	return all
}

// allTake checks that all functions take a harvest, or that each of them returns ErrArg, also if its other arguments are beyond their ranges.
func allTake(t *testing.T, name string, valid bool, h api.Harvest) {
	t.Helper()
	for _, n := range []int{0, -1, 7, math.MaxInt} {
		for _, order := range [][]int{nil, {n}, {0, 1, 2}, {0, 2, 1}} {
			for i, e := range answers(t, h, n, order, n) {
				if valid != (e != api.ErrArg) {
					t.Error(name, i, n, order, e)
				}
			}
		}
	}
}

// numbers checks that all functions take the example with a number changed, if it is from least to most, and not otherwise.
func numbers(t *testing.T, name string, least, most int, field func(h *api.Harvest) *int) {
	t.Helper()
	for _, n := range append(strangeNumbers(), least-1, least, least+1, most-1, most, most+1) {
		h := example()
		*field(&h) = n
		allTake(t, name, n >= least && n <= most, h)
	}
}

// spans checks that all functions take the example with spans within 0 to most, and no other ones.
func spans(t *testing.T, name string, most int, field func(h *api.Harvest) *api.Span) {
	t.Helper()
	for _, s := range []api.Span{{}, {Hi: 1}, {Lo: 1, Hi: 1}, {Hi: most}, {Lo: most, Hi: most}, {Lo: 7, Hi: most - 1}} {
		h := example()
		*field(&h) = s
		allTake(t, name, true, h)
	}
	for _, s := range []api.Span{{Lo: -1}, {Lo: -1, Hi: -1}, {Lo: 1}, {Lo: most, Hi: most - 1}, {Hi: most + 1}, {Lo: most + 1, Hi: most + 1}, {Hi: -1}, {Lo: math.MinInt, Hi: math.MaxInt}, {Lo: math.MaxInt, Hi: math.MinInt}, {Lo: math.MinInt, Hi: 5}, {Lo: 5, Hi: math.MaxInt}} {
		h := example()
		*field(&h) = s
		allTake(t, name, false, h)
	}
}

func TestValidBogs(t *testing.T) {
	for bed := range 3 {
		numbers(t, "need", 1, 1<<36, func(h *api.Harvest) *int { return &h.Bogs[bed].Need })
		spans(t, "leak", 1<<20, func(h *api.Harvest) *api.Span { return &h.Bogs[bed].Leak })
		// Also the work with winds that there cannot be.
		for wind := range 4 {
			spans(t, "work", 1<<14, func(h *api.Harvest) *api.Span { return &h.Bogs[bed].Work[wind] })
		}
		for winds := range 10 {
			h := example()
			h.Bogs[bed].Work = make([]api.Span, winds)
			allTake(t, "winds of a bed", winds == 4, h)
		}
		h := example()
		h.Bogs[bed].Work = nil
		allTake(t, "no winds of a bed", false, h)
	}
}

func TestValidNumbers(t *testing.T) {
	numbers(t, "winds", 1, 15, func(h *api.Harvest) *int { return &h.Winds })
	numbers(t, "inlet", 1, 1<<30, func(h *api.Harvest) *int { return &h.Inlet })
	numbers(t, "reserve", 0, 1<<40, func(h *api.Harvest) *int { return &h.Reserve })
}

func TestValidRates(t *testing.T) {
	for from := range 3 {
		for to := range 3 {
			numbers(t, "rate", 0, 1<<30, func(h *api.Harvest) *int { return &h.Rates[from][to] })
		}
		for rates := range 10 {
			h := example()
			h.Rates[from] = make([]int, rates)
			allTake(t, "rates of a bed", rates == 3, h)
		}
		h := example()
		h.Rates[from] = nil
		allTake(t, "no rates of a bed", false, h)
	}
	for rows := range 10 {
		h := example()
		h.Rates = slices.Repeat([][]int{{1, 1, 1}}, rows)
		allTake(t, "rows", rows == 3, h)
	}
	h := example()
	h.Rates = nil
	allTake(t, "no rows", false, h)
}

func TestValidBeds(t *testing.T) {
	for beds := range 12 {
		allTake(t, "beds", beds >= 1 && beds <= 7, even(beds))
	}
	allTake(t, "many beds", false, even(100))
	allTake(t, "zero", false, api.Harvest{})
	last := even(7)
	last.Bogs[6].Work[3].Hi = api.MaxWorking + 1
	allTake(t, "the last bed", false, last)
	last = even(7)
	last.Rates[6][6] = -1
	allTake(t, "the last rate", false, last)
}

// allLists returns all lists of at most four of the numbers from -1 to 3.
func allLists() [][]int {
	lists, last := [][]int{nil}, [][]int{nil}
	for range 4 {
		var longer [][]int
		for _, l := range last {
			for n := -1; n <= 3; n++ {
				longer = append(longer, append(slices.Clone(l), n))
			}
		}
		lists, last = append(lists, longer...), longer
	}
	return lists
}

// ErrRange unless the order has each bed once, whether or not it can be.
func TestOrders(t *testing.T) {
	for beds := 1; beds <= 4; beds++ {
		h, dry := even(beds), even(beds)
		for i := range dry.Rates {
			clear(dry.Rates[i])
		}
		valid := allOrders(beds)
		for _, l := range allLists() {
			want, wantDry := api.ErrRange, api.ErrRange
			if slices.ContainsFunc(valid, func(v []int) bool { return slices.Equal(l, v) }) {
				want, wantDry = api.OK, api.ErrNone
			}
			if beds == 1 {
				wantDry = want
			}
			_, _, e := flood.Times(h, l)
			_, f := flood.Through(h, l, 0)
			_, _, g := flood.Times(dry, l)
			if e != want || f != want || g != wantDry {
				t.Error(beds, l, e, f, g, "instead of", want, wantDry)
			}
		}
	}
}

// Orders of as many beds as there can be, and what is not quite one.
func TestLongOrders(t *testing.T) {
	h := even(7)
	for _, c := range []struct {
		order []int
		want  api.Errno
	}{
		{[]int{0, 1, 2, 3, 4, 5, 6}, api.OK}, {[]int{6, 5, 4, 3, 2, 1, 0}, api.OK}, {[]int{3, 0, 6, 1, 5, 2, 4}, api.OK},
		{[]int{0, 1, 2, 3, 4, 5, 7}, api.ErrRange}, {[]int{0, 1, 2, 3, 4, 5, 5}, api.ErrRange}, {[]int{0, 0, 2, 3, 4, 5, 6}, api.ErrRange}, {[]int{1, 2, 3, 4, 5, 6, 7}, api.ErrRange},
		{[]int{-1, 1, 2, 3, 4, 5, 6}, api.ErrRange}, {[]int{0, 1, 2, 3, 4, 5}, api.ErrRange}, {[]int{0, 1, 2, 3, 4, 5, 6, 0}, api.ErrRange}, {[]int{0, 1, 2, 3, 4, 5, 6, 7}, api.ErrRange},
		{[]int{0, 1, 2, 3, 4, 5, math.MaxInt}, api.ErrRange}, {[]int{math.MinInt, 1, 2, 3, 4, 5, 6}, api.ErrRange}, {make([]int, 1000), api.ErrRange},
	} {
		_, _, e := flood.Times(h, c.order)
		_, f := flood.Through(h, c.order, 0)
		if e != c.want || f != c.want {
			t.Error(c.order, e, f, "instead of", c.want)
		}
	}
}

// R1: ErrArg, then ErrRange of the order, then ErrNone, then ErrShort, then ErrRange of the minute.
func TestOrderOfErrors(t *testing.T) {
	h := withReserve(example(), 0)
	bad := withReserve(example(), -1)
	for _, c := range []struct {
		h     api.Harvest
		order []int
		want  api.Errno
	}{
		{bad, []int{0, 0}, api.ErrArg}, {bad, []int{0, 2, 1}, api.ErrArg}, {bad, []int{0, 1, 2}, api.ErrArg},
		{h, []int{0, 2, 2}, api.ErrRange}, {h, []int{0, 2}, api.ErrRange}, {h, []int{0, 2, 1}, api.ErrNone}, {h, []int{2, 1, 0}, api.ErrNone},
		{h, []int{0, 1, 2}, api.ErrShort}, {withReserve(h, 1440), []int{0, 1, 2}, api.OK},
	} {
		if _, _, e := flood.Times(c.h, c.order); e != c.want {
			t.Error(c.order, e, "instead of", c.want)
		}
		if c.want == api.OK {
			c.want = api.ErrRange
		}
		expectThrough(t, "order of errors", c.h, c.order, -1, 0, c.want)
	}
}

// P1, R2: no function panics, and none gives a result with an error.
func TestStrangeArguments(t *testing.T) {
	errors := map[api.Errno]int{}
	for seed := range uint64(3000) {
		r := newWorld(seed, plain())
		h := r.someHarvest()
		strange := func() int { return strangeNumbers()[r.IntN(len(strangeNumbers()))] }
		bed := r.IntN(len(h.Bogs))
		b, row := &h.Bogs[bed], h.Rates[bed]
		for range r.IntN(3) {
			field := []*int{&b.Need, &b.Leak.Lo, &b.Leak.Hi, &b.Work[0].Lo, &b.Work[3].Hi, &row[0], &row[len(row)-1], &h.Inlet, &h.Reserve, &h.Winds}[r.IntN(10)]
			*field = strange()
		}
		order := r.someOrder(h)
		if r.IntN(4) == 0 {
			order[r.IntN(len(order))] = strange()
		}
		for _, e := range answers(t, h, strange(), order, strange()) {
			errors[e]++
		}
	}
	for _, e := range []api.Errno{api.OK, api.ErrArg, api.ErrRange, api.ErrNone, api.ErrShort} {
		if errors[e] < 100 {
			t.Error("too few", errors)
		}
	}
	if len(errors) != 5 {
		t.Error("other errors", errors)
	}
}
