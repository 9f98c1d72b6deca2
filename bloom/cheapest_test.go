package bloom_test

import (
	"math"
	"slices"
	"testing"

	"fenberry/api"
	"fenberry/bloom"
)

// expectCheapest checks what Cheapest returns.
func expectCheapest(t *testing.T, name string, x api.Bloom, want offer, wantError api.Errno) {
	t.Helper()
	if plan, cost, e := bloom.Cheapest(x); !samePlan(plan, want.plan) || cost != want.cost || e != wantError {
		t.Error(name, plan, cost, e, "instead of", want, wantError)
	}
}

// P4.3: the chapter's example, and changes of it.
func TestCheapestExample(t *testing.T) {
	expectCheapest(t, "example", example(), offer{cheapOne(), 22}, api.OK)
	for _, c := range []struct {
		name string
		do   func(x *api.Bloom)
		want offer
		e    api.Errno
	}{
		{"nothing can be moved", func(x *api.Bloom) { x.Moves = 0 }, offer{}, api.ErrNone},
		{"one can be moved", func(x *api.Bloom) { x.Moves = 1 }, offer{cheapOne(), 22}, api.OK},
		{"the third one leaves", func(x *api.Bloom) { x.Colonies[2].To = 1 }, offer{[][]int{{0, -1, -1}, {0, -1, 1}, {1, -1, -1}}, 25}, api.OK},
		{"the second one is enough", func(x *api.Bloom) { x.Beds[0].Need = 6 }, offer{[][]int{{-1, 0, -1}, {-1, 0, 1}, {-1, -1, 1}}, 18}, api.OK},
		{"the first two together", func(x *api.Bloom) { x.Beds[0].Need = 16 }, offer{[][]int{{0, 0, -1}, {0, 0, 1}, {-1, -1, 1}}, 30}, api.OK},
		{"all but one frame", func(x *api.Bloom) { x.Beds[0].Need = 17 }, offer{}, api.ErrNone},
		{"too great a need", func(x *api.Bloom) { x.Beds[1].Need = 19 }, offer{}, api.ErrNone},
		{"no beds", func(x *api.Bloom) { x.Beds = nil }, offer{[][]int{{-1, -1, -1}, {-1, -1, -1}, {-1, -1, -1}}, 0}, api.OK},
		{"no colonies", func(x *api.Bloom) { x.Colonies = nil }, offer{}, api.ErrNone},
		{"no needs", func(x *api.Bloom) { x.Beds[0].Need, x.Beds[1].Need = 0, 0 }, offer{[][]int{{-1, -1, -1}, {-1, -1, -1}, {-1, -1, -1}}, 0}, api.OK},
		{"no days", func(x *api.Bloom) { x.Days = 0 }, offer{}, api.OK},
		{"nothing at all", func(x *api.Bloom) { *x = api.Bloom{} }, offer{}, api.OK},
		{"only days", func(x *api.Bloom) { *x = api.Bloom{Days: 2} }, offer{[][]int{{}, {}}, 0}, api.OK},
	} {
		x := example()
		c.do(&x)
		expectCheapest(t, c.name, x, c.want, c.e)
	}
}

// always returns a colony that is always to be had.
func always(frames, price int) api.Colony {
	return api.Colony{Frames: span(frames, frames+5), Price: price, From: math.MinInt, To: math.MaxInt}
}

// P4.3: the fee decides whether a dear colony stays, or a cheap one comes in its place; at the same cost the first plan is meant.
func TestCheapestFee(t *testing.T) {
	x := api.Bloom{Days: 4, Moves: 1, Beds: []api.BloomBed{{To: 3, Need: 5}}}
	x.Colonies = []api.Colony{always(5, 10), {Frames: span(5, 5), Price: 7, From: 1, To: 3}}
	change := [][]int{{0, -1}, {-1, 0}, {-1, 0}, {-1, 0}}
	stay := [][]int{{0, -1}, {0, -1}, {0, -1}, {0, -1}}
	for fee, want := range map[int]offer{0: {change, 31}, 8: {change, 47}, 9: {change, 49}, 10: {stay, 50}, api.MaxRent: {stay, 40 + api.MaxRent}} {
		x.Fee = fee
		expectCheapest(t, "fee", x, want, api.OK)
	}
}

// P4.3: what is cheapest on the first day is not what is cheapest in all.
func TestCheapestLooksAhead(t *testing.T) {
	x := api.Bloom{Days: 2, Moves: 2, Fee: 10, Beds: []api.BloomBed{{To: 1, Need: 5}}}
	x.Colonies = []api.Colony{{Frames: span(5, 5), Price: 1}, {Frames: span(5, 5), Price: 2, To: 1}}
	expectCheapest(t, "the second one comes anyway", x, offer{[][]int{{-1, 0}, {-1, 0}}, 14}, api.OK)
	x.Moves, x.Fee = 1, 0
	x.Colonies = append(x.Colonies, api.Colony{Frames: span(5, 5), Price: 3, From: 1, To: 1})
	x.Beds = append(x.Beds, api.BloomBed{From: 1, To: 1, Need: 5})
	expectCheapest(t, "only one can come then", x, offer{[][]int{{-1, 0, -1}, {-1, 0, 1}}, 7}, api.OK)
	x.Colonies[1].From = 1
	expectCheapest(t, "both would have to come then", x, offer{}, api.ErrNone)
}

// P4.3: a colony comes a day early, if not all can come in one night.
func TestCheapestComesEarly(t *testing.T) {
	x := api.Bloom{Days: 2, Moves: 2, Fee: 3, Colonies: []api.Colony{always(5, 10), always(5, 20)}}
	x.Beds = []api.BloomBed{{From: 1, To: 1, Need: 5}, {From: 1, To: 1, Need: 4}}
	expectCheapest(t, "both in one night", x, offer{[][]int{{-1, -1}, {0, 1}}, 36}, api.OK)
	x.Moves = 1
	expectCheapest(t, "the cheap one ahead", x, offer{[][]int{{0, -1}, {0, 1}}, 46}, api.OK)
	x.Colonies[0].From = 1
	expectCheapest(t, "the dear one ahead", x, offer{[][]int{{-1, 0}, {1, 0}}, 56}, api.OK)
	x.Colonies[1].From = 1
	expectCheapest(t, "nobody ahead", x, offer{}, api.ErrNone)
}

// P4.3: of plans that cost the same, the one whose first day is first, colony by colony, Away ahead of all beds.
func TestCheapestIsFirst(t *testing.T) {
	for _, c := range []struct {
		name  string
		price []int
		fee   int
		need  []int
		days  int
		want  offer
	}{
		{"two that are the same", []int{2, 2}, 0, []int{5}, 1, offer{[][]int{{-1, 0}}, 2}},
		{"two for nothing", []int{0, 0}, 0, []int{5}, 1, offer{[][]int{{-1, 0}}, 0}},
		{"a cheaper one is ahead of all", []int{1, 2}, 0, []int{5}, 1, offer{[][]int{{0, -1}}, 1}},
		{"two beds", []int{2, 2}, 0, []int{5, 5}, 1, offer{[][]int{{0, 1}}, 4}},
		{"the second bed", []int{2, 2, 2}, 0, []int{0, 5}, 1, offer{[][]int{{-1, -1, 1}}, 2}},
		{"two of three", []int{2, 2, 2}, 1, []int{10}, 2, offer{[][]int{{-1, 0, 0}, {-1, 0, 0}}, 10}},
		{"three beds for nothing", []int{0, 0, 0, 0}, 0, []int{5, 0, 5}, 2, offer{[][]int{{-1, -1, 0, 2}, {-1, -1, 0, 2}}, 0}},
		{"moving to and fro for nothing", []int{2, 2}, 0, []int{5, 5}, 3, offer{[][]int{{0, 1}, {0, 1}, {0, 1}}, 12}},
		{"nobody is needed", []int{0, 0}, 0, []int{0}, 2, offer{[][]int{{-1, -1}, {-1, -1}}, 0}},
	} {
		x := api.Bloom{Days: c.days, Moves: 4, Fee: c.fee}
		for _, price := range c.price {
			x.Colonies = append(x.Colonies, always(5, price))
		}
		for _, need := range c.need {
			x.Beds = append(x.Beds, api.BloomBed{To: c.days, Need: need})
		}
		expectCheapest(t, c.name, x, c.want, api.OK)
	}
}

// P4.3: an early day decides ahead of a later one, and a first colony ahead of a second one.
func TestCheapestIsFirstOnEarlyDays(t *testing.T) {
	// On the day 1 two have to stand on the bed, and only one can come in a night: one of them comes on the day 0.
	x := api.Bloom{Days: 2, Moves: 1, Colonies: []api.Colony{always(5, 2), always(5, 2)}, Beds: []api.BloomBed{{From: 1, To: 1, Need: 10}, {}}}
	expectCheapest(t, "one ahead", x, offer{[][]int{{-1, 0}, {0, 0}}, 6}, api.OK)
	// The colony 1 costs nothing until it has to be somewhere else: it comes as late as it can.
	x = api.Bloom{Days: 3, Moves: 1, Colonies: []api.Colony{always(5, 2), always(5, 0)}, Beds: []api.BloomBed{{From: 2, To: 2, Need: 5}}}
	expectCheapest(t, "late", x, offer{[][]int{{-1, -1}, {-1, -1}, {-1, 0}}, 0}, api.OK)
	// Both orders of the two beds' colonies cost the same; staying on one's bed does not matter without a fee.
	x = api.Bloom{Days: 2, Moves: 4, Colonies: []api.Colony{always(9, 1), always(5, 1)}, Beds: []api.BloomBed{{To: 0, Need: 5}, {From: 1, To: 1, Need: 5}}}
	expectCheapest(t, "the second one twice", x, offer{[][]int{{-1, 0}, {-1, 1}}, 2}, api.OK)
	x.Moves = 0
	expectCheapest(t, "nobody moves", x, offer{}, api.ErrNone)
}

// P4.3: numbers at the limits.
func TestCheapestLimits(t *testing.T) {
	x := api.Bloom{Days: api.MaxBloom, Moves: 4, Fee: api.MaxRent}
	x.Colonies = slices.Repeat([]api.Colony{{Frames: span(api.MaxFrames, api.MaxFrames), Price: api.MaxRent, To: 13}}, 4)
	x.Beds = slices.Repeat([]api.BloomBed{{To: 13, Need: api.MaxFrames}}, 3)
	var want offer
	for range api.MaxBloom {
		want.plan = append(want.plan, []int{-1, 0, 1, 2})
	}
	want.cost = (14*3 + 3) << 24
	expectCheapest(t, "greatest", x, want, api.OK)
	x.Moves = 3
	expectCheapest(t, "just enough moves", x, want, api.OK)
	x.Moves = 2
	expectCheapest(t, "too few moves", x, offer{}, api.ErrNone)
	x.Moves = 3
	x.Colonies[1].To, x.Colonies[2].To = 12, 12
	expectCheapest(t, "too few on the last day", x, offer{}, api.ErrNone)
	// All places are possible on all days.
	for i := range x.Beds {
		x.Beds[i].Need = 0
	}
	for i := range want.plan {
		want.plan[i] = []int{-1, -1, -1, -1}
	}
	x.Moves, want.cost = 4, 0
	expectCheapest(t, "no needs", x, want, api.OK)
}

// P4.3: all colonies are needed on all days, on one bed after the other: no cheapest plan costs more.
func TestCheapestIsDear(t *testing.T) {
	x := api.Bloom{Days: api.MaxBloom, Moves: 4, Fee: api.MaxRent}
	x.Colonies = slices.Repeat([]api.Colony{always(api.MaxFrames/4, api.MaxRent)}, 4)
	x.Beds = []api.BloomBed{{From: 4, To: 8, Need: api.MaxFrames}, {To: 3, Need: api.MaxFrames}, {From: 9, To: 13, Need: api.MaxFrames}}
	var want offer
	for day := range api.MaxBloom {
		bed := []int{1, 1, 1, 1, 0, 0, 0, 0, 0, 2, 2, 2, 2, 2}[day]
		want.plan = append(want.plan, []int{bed, bed, bed, bed})
	}
	want.cost = (14*4 + 3*4) << 24
	expectCheapest(t, "dear", x, want, api.OK)
	expectVital(t, "dear", x, want.plan, []int{0, 1, 2, 3}, api.OK)
	x.Beds[0].From--
	expectCheapest(t, "two at once", x, offer{}, api.ErrNone)
}

// P4.3: as trying all plans, and as going forward.
func TestCheapestIsBest(t *testing.T) {
	free, paid, none := 0, 0, 0
	eachWorld(func(seed uint64, r world) {
		x := r.someBloom()
		want, e := bestForward(x)
		if r.sizes == few() || r.sizes == wide() && seed%20 == 0 {
			all, e2 := bestOfAll(x)
			if !samePlan(all.plan, want.plan) || all.cost != want.cost || e != e2 {
				t.Fatal(seed, "the test contradicts itself", x, want, e, all, e2)
			}
		}
		expectCheapest(t, "best", x, want, e)
		switch {
		case e != api.OK:
			none++
		case want.cost > 0:
			paid++
		default:
			free++
		}
	})
	if min(free, paid, none) < 80 {
		t.Error("too few", free, paid, none)
	}
}
