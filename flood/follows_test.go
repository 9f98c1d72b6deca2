package flood_test

import (
	"slices"
	"testing"

	"fenberry/api"
	"fenberry/flood"
)

// fact is what is true of a bed, and of the water of all.
type fact struct {
	filled, done []int
	used         [4]int
}

// live harvests by an order; pick chooses a number of the work, and pickLeak one of what leaks in a minute.
func live(h api.Harvest, order []int, pick, pickLeak func(s api.Span) int) fact {
	var f fact
	minute, taken, leaked, spilled, left := 0, 0, 0, 0, 0
	for i, bed := range order {
		need, rate := h.Bogs[bed].Need, h.Inlet
		if i > 0 {
			rate = h.Rates[order[i-1]][bed]
		}
		minute += need / rate
		if need%rate > 0 {
			minute++
		}
		taken, spilled = taken+max(0, need-left), spilled+max(0, left-need)
		left = need
		f.filled = append(f.filled, minute)
		for range pick(judgeWork(h, bed)) {
			minute++
			gone := min(left, pickLeak(h.Bogs[bed].Leak))
			leaked, left = leaked+gone, left-gone
		}
		f.done = append(f.done, minute)
	}
	f.used = [4]int{taken, leaked, spilled, left}
	return f
}

func lowest(s api.Span) int { return s.Lo }

func highest(s api.Span) int { return s.Hi }

func isIn(n int, s api.Span) bool { return s.Lo <= n && n <= s.Hi }

// eachOrder calls do with orders that can be, of worlds of each size, with enough water.
func eachOrder(do func(seed uint64, r world, h api.Harvest, order []int)) {
	eachWorld(func(seed uint64, r world) {
		h := withReserve(r.someHarvest(), api.MaxAmount)
		if order := r.someOrder(h); canBe(h, order) {
			do(seed, r, h, order)
		}
	})
}

// P7.6, P3: whatever the wind does, and whatever leaks, all is within the spans; what is taken leaks, goes to the river, or is left.
func TestTruthIsWithin(t *testing.T) {
	lives := 0
	eachOrder(func(seed uint64, r world, h api.Harvest, order []int) {
		l, u, _ := flood.Times(h, order)
		some := func(s api.Span) int { return r.between(s.Lo, s.Hi) }
		end := func(s api.Span) int { return []int{s.Lo, s.Hi}[r.IntN(2)] }
		for _, pick := range []func(api.Span) int{some, end, lowest, highest} {
			for _, pickLeak := range []func(api.Span) int{some, lowest, highest} {
				lives++
				f := live(h, order, pick, pickLeak)
				for i, b := range l {
					if !isIn(f.filled[i], b.Filled) || !isIn(f.done[i], b.Done) {
						t.Fatal(seed, h, order, l, f)
					}
				}
				for i, s := range []api.Span{u.Taken, u.Leaked, u.Spilled, u.Left} {
					if !isIn(f.used[i], s) {
						t.Fatal(seed, h, order, u, f)
					}
				}
				if f.used[0] != f.used[1]+f.used[2]+f.used[3] {
					t.Fatal("the test loses water", f)
				}
			}
		}
	})
	if lives < 1000 {
		t.Error("too few", lives)
	}
}

// P7.6: each end of the times can be true, and so can both ends of the water.
func TestEndsCanBeTrue(t *testing.T) {
	eachOrder(func(seed uint64, r world, h api.Harvest, order []int) {
		l, u, _ := flood.Times(h, order)
		early, late := live(h, order, lowest, lowest), live(h, order, highest, highest)
		for i, b := range l {
			if b.Filled != span(early.filled[i], late.filled[i]) || b.Done != span(early.done[i], late.done[i]) {
				t.Fatal(seed, h, order, b, early, late)
			}
		}
		want := api.Used{Taken: span(early.used[0], late.used[0]), Leaked: span(early.used[1], late.used[1]), Spilled: span(late.used[2], early.used[2]), Left: span(late.used[3], early.used[3])}
		if u != want {
			t.Fatal(seed, h, order, u, want)
		}
	})
}

// P7.6, P2: what is taken at least and at most leaks, goes to the river, or is left in the last bed.
func TestWaterIsConserved(t *testing.T) {
	eachOrder(func(seed uint64, r world, h api.Harvest, order []int) {
		_, u, _ := flood.Times(h, order)
		if u.Taken.Lo != u.Leaked.Lo+u.Spilled.Hi+u.Left.Hi || u.Taken.Hi != u.Leaked.Hi+u.Spilled.Lo+u.Left.Lo {
			t.Fatal(seed, h, order, u)
		}
	})
}

// P7.7: each bed is harvested once, in the order that is given, one behind the other.
func TestEachBedOnce(t *testing.T) {
	eachOrder(func(seed uint64, r world, h api.Harvest, order []int) {
		l, _, e := flood.Times(h, order)
		var beds []int
		last := one(0)
		for _, b := range l {
			beds = append(beds, b.Bed)
			if b.Filled.Lo <= last.Lo || b.Filled.Hi <= last.Hi || b.Done.Lo < b.Filled.Lo || b.Done.Hi < b.Filled.Hi {
				t.Fatal(seed, h, order, l)
			}
			last = b.Done
		}
		if !slices.Equal(beds, order) || e != api.OK {
			t.Fatal(seed, h, order, l, e)
		}
	})
}

// end returns the greatest minute in which the last bed is harvested, and what is taken at most; false if there is an error.
func end(h api.Harvest, order []int) (through, taken int, ok bool) {
	l, u, e := flood.Times(h, order)
	if e != api.OK {
		return 0, 0, false
	}
	return l[len(l)-1].Done.Hi, u.Taken.Hi, true
}

// P7.7: no other order, with the same water and wind, is surely through earlier.
func TestNoOrderIsFaster(t *testing.T) {
	others := 0
	eachWorld(func(seed uint64, r world) {
		h := r.someHarvest()
		best, e := flood.Best(h)
		through, _, ok := end(h, best)
		if ok != (e == api.OK) {
			t.Fatal(seed, h, best, e)
		}
		for range 20 {
			order := r.someOrder(h)
			other, _, possible := end(h, order)
			if !possible {
				continue
			}
			others++
			if !ok || other < through {
				t.Fatal(seed, h, best, through, order, other)
			}
		}
	})
	if others < 1000 {
		t.Error("too few", others)
	}
}

// P7.7: with the water that Least returns there is an order, the one that it returns; with one litre less there is none.
func TestNoLessWater(t *testing.T) {
	some := 0
	eachWorld(func(seed uint64, r world) {
		h := r.someHarvest()
		water, order, e := flood.Least(h)
		if e != api.OK {
			expectBest(t, "none", withReserve(h, api.MaxAmount), nil, e)
			return
		}
		some++
		expectBest(t, "least", withReserve(h, water), order, api.OK)
		expectBest(t, "one litre less", withReserve(h, water-1), nil, api.ErrShort)
		if _, taken, ok := end(withReserve(h, water), order); !ok || taken != water {
			t.Fatal(seed, h, order, water, taken)
		}
		if t.Failed() {
			t.Fatal(seed, h)
		}
	})
	if some < 200 {
		t.Error("too few", some)
	}
}

// fewerWinds leaves out some of the winds that there may be, but not all.
func (r world) fewerWinds(winds int) int {
	for {
		if fewer := winds & r.between(1, 15); fewer > 0 {
			return fewer
		}
	}
}

// eased returns harvests with more water, fewer winds, faster flumes, and a faster inlet.
func (r world) eased(h api.Harvest) [4]api.Harvest {
	water, winds, flumes, inlet := h, h, clone(h), h
	water.Reserve = r.between(h.Reserve, h.Reserve*2)
	winds.Winds = r.fewerWinds(h.Winds)
	for _, row := range flumes.Rates {
		for to := range row {
			row[to] = r.between(row[to], min(api.MaxPipe, row[to]*3+1))
		}
	}
	inlet.Inlet = r.between(h.Inlet, min(api.MaxPipe, h.Inlet*3))
	return [4]api.Harvest{water, winds, flumes, inlet}
}

// P7.8: with more water, fewer winds, faster flumes, or a faster inlet the best order is through no later.
func TestEasedIsNoLater(t *testing.T) {
	var earlier, found [4]int
	eachWorld(func(seed uint64, r world) {
		h := r.someHarvest()
		best, _ := flood.Best(h)
		through, _, ok := end(h, best)
		for i, eased := range r.eased(h) {
			best2, e := flood.Best(eased)
			through2, _, ok2 := end(eased, best2)
			if ok && (!ok2 || e != api.OK || through2 > through) {
				t.Fatal(seed, i, h, eased, best, through, best2, through2)
			}
			switch {
			case ok && through2 < through:
				earlier[i]++
			case !ok && ok2:
				found[i]++
			}
		}
	})
	if slices.Min(earlier[:]) < 10 || min(found[0], found[1], found[2]) < 3 || found[3] > 0 {
		t.Error("too few", earlier, found)
	}
}

// P7.8: if beds leak less, no more is taken, by any order, and at least.
func TestLessLeaksLessIsTaken(t *testing.T) {
	less, leastLess := 0, 0
	eachWorld(func(seed uint64, r world) {
		h := withReserve(r.someHarvest(), api.MaxAmount)
		dry := clone(h)
		for bed, b := range h.Bogs {
			lo := r.between(0, b.Leak.Lo)
			dry.Bogs[bed].Leak = span(lo, r.between(lo, b.Leak.Hi))
		}
		order := r.someOrder(h)
		_, u, e := flood.Times(h, order)
		_, v, f := flood.Times(dry, order)
		if e != f || v.Taken.Lo > u.Taken.Lo || v.Taken.Hi > u.Taken.Hi {
			t.Fatal(seed, h, dry, order, u, v)
		}
		water, _, _ := flood.Least(h)
		dryWater, _, _ := flood.Least(dry)
		if dryWater > water {
			t.Fatal(seed, h, dry, water, dryWater)
		}
		if v.Taken.Hi < u.Taken.Hi {
			less++
		}
		if dryWater < water {
			leastLess++
		}
	})
	if min(less, leastLess) < 20 {
		t.Error("too few", less, leastLess)
	}
}

// renumbered returns the harvest with its beds in another order: the bed i of the result is the bed l[i] of h.
func renumbered(h api.Harvest, l []int) api.Harvest {
	n := clone(h)
	for i, bed := range l {
		n.Bogs[i] = h.Bogs[bed]
		for j, other := range l {
			n.Rates[i][j] = h.Rates[bed][other]
		}
	}
	return n
}

// P11: how beds are numbered changes only their numbers.
func TestNumbersDoNotMatter(t *testing.T) {
	eachWorld(func(seed uint64, r world) {
		h := r.someHarvest()
		l := r.someOrder(h)
		n := renumbered(h, l)
		order := r.someOrder(n)
		var old []int
		for _, i := range order {
			old = append(old, l[i])
		}
		times, used, e := flood.Times(h, old)
		for i := range times {
			times[i].Bed = order[i]
		}
		expectTimes(t, "renumbered", n, order, times, used, e)
		best, e := flood.Best(h)
		best2, e2 := flood.Best(n)
		through, taken, _ := end(h, best)
		through2, taken2, _ := end(n, best2)
		water, _, f := flood.Least(h)
		water2, _, f2 := flood.Least(n)
		if e != e2 || through != through2 || taken != taken2 || water != water2 || f != f2 {
			t.Fatal(seed, h, n, best, best2, through, through2, taken, taken2, water, water2)
		}
		if t.Failed() {
			t.Fatal(seed, h)
		}
	})
}

// The rate from a bed to itself, and the work with winds that there cannot be, make no difference.
func TestWhatDoesNotMatter(t *testing.T) {
	eachWorld(func(seed uint64, r world) {
		h := r.someHarvest()
		other := clone(h)
		for bed, b := range other.Bogs {
			other.Rates[bed][bed] = r.between(0, api.MaxPipe)
			for wind := range b.Work {
				if h.Winds>>wind&1 == 0 {
					b.Work[wind] = span(0, r.between(0, api.MaxWorking))
				}
			}
		}
		order := r.someOrder(h)
		times, used, e := flood.Times(h, order)
		expectTimes(t, "other", other, order, times, used, e)
		best, e := flood.Best(h)
		expectBest(t, "other", other, best, e)
		water, least, e := flood.Least(h)
		expectLeast(t, "other", other, water, least, e)
		if t.Failed() {
			t.Fatal(seed, h)
		}
	})
}

// R4: arguments are only read.
func TestArgumentsAreOnlyRead(t *testing.T) {
	eachWorld(func(seed uint64, r world) {
		h := r.someHarvest()
		order := r.someOrder(h)
		before, orderBefore := clone(h), slices.Clone(order)
		answers(t, h, 0, order, r.IntN(1000))
		if !sameHarvest(h, before) || !slices.Equal(order, orderBefore) {
			t.Fatal(seed, h, before, order, orderBefore)
		}
	})
}

// R4: results are new: one that is changed changes no other one.
func TestResultsAreNew(t *testing.T) {
	h, order := example(), []int{1, 0, 2}
	times, used, _ := flood.Times(h, order)
	kept := slices.Clone(times)
	best, _ := flood.Best(h)
	_, least, _ := flood.Least(h)
	clear(times)
	clear(best)
	clear(least)
	if !slices.Equal(order, []int{1, 0, 2}) {
		t.Error("shared", order)
	}
	expectTimes(t, "again", h, order, kept, used, api.OK)
	expectBest(t, "again", h, []int{0, 1, 2}, api.OK)
	expectLeast(t, "again", h, 1240, []int{1, 0, 2}, api.OK)
}

// P11: the same call gives the same, whatever was called ahead of it.
func TestSameAgain(t *testing.T) {
	eachWorld(func(seed uint64, r world) {
		h := r.someHarvest()
		order := r.someOrder(h)
		times, used, e := flood.Times(h, order)
		best, f := flood.Best(h)
		answers(t, r.someHarvest(), 0, order, 0)
		expectTimes(t, "again", clone(h), order, times, used, e)
		expectBest(t, "again", clone(h), best, f)
		if t.Failed() {
			t.Fatal(seed, h)
		}
	})
}
