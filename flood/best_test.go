package flood_test

import (
	"testing"

	"fenberry/api"
)

// P7.4: the chapter's examples.
func TestBestExamples(t *testing.T) {
	for _, reserve := range []int{2000, api.MaxAmount, 1440} {
		expectBest(t, "example", withReserve(example(), reserve), []int{0, 1, 2}, api.OK)
	}
	for _, reserve := range []int{1439, 1300, 1240} {
		expectBest(t, "example", withReserve(example(), reserve), []int{1, 0, 2}, api.OK)
	}
	for _, reserve := range []int{1239, 1200, 0} {
		expectBest(t, "example", withReserve(example(), reserve), nil, api.ErrShort)
	}
}

// P7.5: the chapter's example; the reserve that there is makes no difference.
func TestLeastExample(t *testing.T) {
	for _, reserve := range []int{0, 1, 1239, 1240, 2000, api.MaxAmount} {
		expectLeast(t, "example", withReserve(example(), reserve), 1240, []int{1, 0, 2}, api.OK)
	}
}

// P7.4, P7.5: one bed.
func TestBestOfOneBed(t *testing.T) {
	h := even(1)
	h.Rates[0][0] = 0
	expectBest(t, "one bed", h, []int{0}, api.OK)
	expectBest(t, "one bed", withReserve(h, 9), nil, api.ErrShort)
	expectLeast(t, "one bed", withReserve(h, 9), 10, []int{0}, api.OK)
}

// P7.4: what is the same is decided by the water, and then in lexicographic order.
func TestBestOfEqualOnes(t *testing.T) {
	for beds := 1; beds <= api.MaxBogs; beds++ {
		expectBest(t, "all the same", even(beds), []int{0, 1, 2, 3, 4, 5, 6}[:beds], api.OK)
		expectLeast(t, "all the same", even(beds), 10, []int{0, 1, 2, 3, 4, 5, 6}[:beds], api.OK)
	}
	h := even(3)
	h.Rates[0][1] = 5
	expectBest(t, "a slower flume", h, []int{0, 2, 1}, api.OK)
	h.Rates[0][2] = 5
	expectBest(t, "two slower flumes", h, []int{1, 2, 0}, api.OK)
	h = even(3)
	h.Bogs[0].Leak, h.Bogs[0].Work = one(1), works(one(1))
	expectBest(t, "the bed that leaks is the last one", withReserve(h, 20), []int{1, 2, 0}, api.OK)
	expectLeast(t, "the bed that leaks is the last one", h, 10, []int{1, 2, 0}, api.OK)
	h.Bogs[2].Leak, h.Bogs[2].Work = one(1), works(one(1))
	expectBest(t, "one of two", withReserve(h, 20), []int{0, 1, 2}, api.OK)
	h.Bogs[0].Leak = one(2)
	expectBest(t, "the lesser one of two", withReserve(h, 20), []int{1, 2, 0}, api.OK)
	h.Bogs[0].Work = works(span(0, 1))
	expectBest(t, "what is taken at most", withReserve(h, 20), []int{1, 2, 0}, api.OK)
}

// P7.4: what counts is the greatest minute, ahead of the water.
func TestBestIsFirstByTime(t *testing.T) {
	h := even(2)
	h.Bogs[0].Leak, h.Bogs[0].Work = one(9), works(one(1))
	h.Rates[1][0] = 9
	expectBest(t, "faster with more water", withReserve(h, 19), []int{0, 1}, api.OK)
	expectBest(t, "slower with less", withReserve(h, 18), []int{1, 0}, api.OK)
	expectBest(t, "slower with less", withReserve(h, 10), []int{1, 0}, api.OK)
	expectBest(t, "short", withReserve(h, 9), nil, api.ErrShort)
	expectLeast(t, "slower with less", withReserve(h, 19), 10, []int{1, 0}, api.OK)
}

// P7.5: of the orders that take as little, the one that is through first.
func TestLeastIsBest(t *testing.T) {
	h := even(3)
	h.Rates[0] = []int{10, 1, 2}
	h.Rates[1] = []int{5, 10, 1}
	h.Rates[2] = []int{1, 5, 10}
	expectLeast(t, "through first", h, 10, []int{2, 1, 0}, api.OK)
	h.Bogs[2].Need, h.Inlet = 20, 20
	expectLeast(t, "all of it for the greatest bed", h, 20, []int{2, 1, 0}, api.OK)
	h.Bogs[2].Leak, h.Bogs[2].Work = span(0, 5), works(span(0, 2))
	expectLeast(t, "what leaks would spill", h, 20, []int{2, 1, 0}, api.OK)
	h.Bogs[2].Work = works(span(0, 3))
	expectLeast(t, "more leaks", h, 20, []int{1, 0, 2}, api.OK)
}

// P7.4, P7.5: ErrNone if no order can be, whether or not there is enough water.
func TestBestNone(t *testing.T) {
	for beds := 2; beds <= api.MaxBogs; beds++ {
		h := even(beds)
		for i := range h.Rates {
			clear(h.Rates[i])
		}
		for _, reserve := range []int{0, api.MaxAmount} {
			expectBest(t, "no flume", withReserve(h, reserve), nil, api.ErrNone)
			expectLeast(t, "no flume", withReserve(h, reserve), 0, nil, api.ErrNone)
		}
		for bed := range beds - 1 {
			h.Rates[bed+1][bed] = 1
		}
		last := []int{6, 5, 4, 3, 2, 1, 0}[api.MaxBogs-beds:]
		expectBest(t, "the last order", h, last, api.OK)
		expectLeast(t, "the last order", h, 10, last, api.OK)
		expectBest(t, "the last order", withReserve(h, 9), nil, api.ErrShort)
		h.Rates[beds-1][beds-2] = 0
		expectBest(t, "a gap", h, nil, api.ErrNone)
	}
	h := even(4)
	for bed := range h.Rates {
		h.Rates[bed][3], h.Rates[bed][2] = 0, 0
	}
	expectBest(t, "two beds that have to be the first one", h, nil, api.ErrNone)
	expectLeast(t, "two beds that have to be the first one", h, 0, nil, api.ErrNone)
}

// P7.4, P7.5: as trying all orders, with all that can be true of each.
func TestBestIsJudge(t *testing.T) {
	good, short, none := 0, 0, 0
	eachSmall(func(seed uint64, r world) {
		h := r.someHarvest()
		all := candidates(h, judgeTimes)
		order, e := judgeBest(all, h.Reserve)
		expectBest(t, "judge", h, order, e)
		for _, c := range all {
			for _, reserve := range []int{c.taken, c.taken - 1} {
				order, e := judgeBest(all, reserve)
				expectBest(t, "judge", withReserve(h, reserve), order, e)
			}
		}
		water, order, f := judgeLeast(all)
		expectLeast(t, "judge", h, water, order, f)
		switch {
		case e == api.ErrNone:
			none++
		case e == api.ErrShort:
			short++
		case len(all) > 1:
			good++
		}
		if t.Failed() {
			t.Fatal(seed, h)
		}
	})
	if min(good, short, none) < 20 {
		t.Error("too few", good, short, none)
	}
}

// P7.4, P7.5: as trying all orders with Times, of as many beds as there can be.
func TestBestOfManyIsJudge(t *testing.T) {
	changed := 0
	for seed := range uint64(24) {
		for _, s := range []sizes{few(), plain(), great()} {
			s.beds = api.MaxBogs
			r := newWorld(seed, s)
			h := r.someHarvest()
			all := candidates(h, given)
			water, order, e := judgeLeast(all)
			expectLeast(t, "judge", h, water, order, e)
			best, e := judgeBest(all, api.MaxAmount)
			expectBest(t, "judge", withReserve(h, api.MaxAmount), best, e)
			some := r.between(water, 2*water)
			order, e = judgeBest(all, some)
			expectBest(t, "judge", withReserve(h, some), order, e)
			if t.Failed() {
				t.Fatal(seed, h)
			}
			if len(all) > 100 && order[0] != best[0] {
				changed++
			}
		}
	}
	if changed < 3 {
		t.Error("too few", changed)
	}
}
