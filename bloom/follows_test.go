package bloom_test

import (
	"slices"
	"testing"

	"fenberry/api"
	"fenberry/bloom"
)

// inspect makes each colony of a bloom a load of hives that was inspected, and returns how many frames it truly has, and how many at worst.
func (r world) inspect(x api.Bloom) (truth, worst []int) {
	for i := range x.Colonies {
		in, frames := r.someInspection(4)
		s, e := bloom.Strength(in)
		if e != api.OK {
			s = span(-1, -1)
		}
		sum, least := 0, 0
		for hive, n := range frames {
			sum += n
			if hive < len(in.Seen) {
				least += in.Seen[hive].Lo
			} else {
				least += in.Least
			}
		}
		x.Colonies[i].Frames = s
		truth, worst = append(truth, sum), append(worst, least)
	}
	return truth, worst
}

// hasAll reports whether each bed has what it needs on each day on which it blooms, if the colonies have so many frames.
func hasAll(x api.Bloom, plan [][]int, frames []int) bool {
	for day, row := range plan {
		for i, b := range x.Beds {
			sum := 0
			for colony, place := range row {
				if place == i {
					sum += frames[colony]
				}
			}
			if b.From <= day && day <= b.To && sum < b.Need {
				return false
			}
		}
	}
	return true
}

// P4.6: however many frames each hive has, each bed that blooms has what it needs under a good plan; under a plan that is only too weak one has not, at worst.
func TestEachBedHasWhatItNeeds(t *testing.T) {
	good, weak := 0, 0
	eachWorld(func(seed uint64, r world) {
		if r.sizes == great() {
			return
		}
		x := r.someBloom()
		truth, worst := r.inspect(x)
		best, _, e := bloom.Cheapest(x)
		for i := range 9 {
			plan := r.somePlan(x)
			if e == api.OK && i > 0 {
				plan = r.change(x, best)
			}
			switch _, _, e := bloom.Check(x, plan); e {
			case api.OK:
				good++
				if !hasAll(x, plan, truth) || !hasAll(x, plan, worst) {
					t.Fatal(seed, x, plan, truth, worst)
				}
			case api.ErrShort:
				weak++
				if hasAll(x, plan, worst) {
					t.Fatal(seed, x, plan, worst)
				}
			}
		}
	})
	if min(good, weak) < 200 {
		t.Error("too few", good, weak)
	}
}

// P4.6: no good plan costs less than the cheapest one, which costs what Check says.
func TestNoGoodPlanCostsLess(t *testing.T) {
	good := 0
	eachWorld(func(seed uint64, r world) {
		x := r.someBloom()
		best, cost, e := bloom.Cheapest(x)
		if e != api.OK {
			for range 20 {
				if plan := r.somePlan(x); judge(x, plan).e == api.OK {
					t.Fatal(seed, x, plan)
				}
			}
			return
		}
		expect(t, "best", x, best, verdict{cost, x.Days, api.OK})
		for range 20 {
			plan := r.change(x, best)
			if c, _, e := bloom.Check(x, plan); e == api.OK {
				good++
				if c < cost || c == cost && slices.CompareFunc(plan, best, slices.Compare[[]int]) < 0 {
					t.Fatal(seed, x, best, cost, plan, c)
				}
			}
		}
	})
	if good < 200 {
		t.Error("too few", good)
	}
}

// P4.6: with more moves in a night, stronger colonies, or a lesser need the cheapest plan costs no more.
func TestBetterCostsNoMore(t *testing.T) {
	less := 0
	eachWorld(func(seed uint64, r world) {
		x := r.someBloom()
		_, cost, e := bloom.Cheapest(x)
		nimble, strong, modest := clone(x), clone(x), clone(x)
		nimble.Moves = min(api.MaxColonies, x.Moves+1)
		for i := range strong.Colonies {
			s := &strong.Colonies[i].Frames
			s.Lo = r.part(*s)
		}
		for i := range modest.Beds {
			b := &modest.Beds[i]
			b.Need = r.IntN(b.Need + 1)
		}
		for i, y := range []api.Bloom{nimble, strong, modest} {
			_, c, e2 := bloom.Cheapest(y)
			if e == api.OK && (e2 != api.OK || c > cost) {
				t.Fatal(seed, i, x, cost, c, e2)
			}
			if e2 == api.OK && (e != api.OK || c < cost) {
				less++
			}
		}
	})
	if less < 100 {
		t.Error("too few", less)
	}
}

// P4.6: without a colony that is not vital the plan is good, too, and costs no more.
func TestWhoIsNotVitalCanGo(t *testing.T) {
	gone, stays := 0, 0
	eachWorld(func(seed uint64, r world) {
		x := r.someBloom()
		best, _, e := bloom.Cheapest(x)
		for range 9 {
			if e != api.OK {
				return
			}
			plan := r.change(x, best)
			vital, e := bloom.Vital(x, plan)
			if e != api.OK {
				continue
			}
			cost, _, _ := bloom.Check(x, plan)
			for colony := range x.Colonies {
				c, _, e := bloom.Check(x, without(plan, colony))
				if slices.Contains(vital, colony) {
					stays++
					if e != api.ErrShort {
						t.Fatal(seed, x, plan, colony, e)
					}
				} else {
					gone++
					if e != api.OK || c > cost {
						t.Fatal(seed, x, plan, colony, c, cost, e)
					}
				}
			}
		}
	})
	if min(gone, stays) < 100 {
		t.Error("too few", gone, stays)
	}
}

// shuffle returns the bloom and the plan with the colonies and the beds in another order, and for each colony its index in the old one.
func (r world) shuffle(x api.Bloom, plan [][]int) (api.Bloom, [][]int, []int) {
	y, colonies, beds := x, r.Perm(len(x.Colonies)), r.Perm(len(x.Beds))
	y.Colonies, y.Beds = nil, nil
	for _, i := range colonies {
		y.Colonies = append(y.Colonies, x.Colonies[i])
	}
	for _, i := range beds {
		y.Beds = append(y.Beds, x.Beds[i])
	}
	var l [][]int
	for _, row := range plan {
		var places []int
		for _, i := range colonies {
			places = append(places, slices.Index(beds, row[i]))
		}
		l = append(l, places)
	}
	return y, l, colonies
}

// P11: in which order the colonies and the beds are named makes no difference.
func TestInAnyOrder(t *testing.T) {
	eachWorld(func(seed uint64, r world) {
		x := r.someBloom()
		best, cost, e := bloom.Cheapest(x)
		plan := r.somePlan(x)
		if e == api.OK && seed%4 > 0 {
			plan = r.change(x, best)
		}
		y, plan2, colonies := r.shuffle(x, plan)
		if _, cost2, e2 := bloom.Cheapest(y); cost2 != cost || e2 != e {
			t.Fatal(seed, x, cost, cost2, e, e2)
		}
		c, day, e := bloom.Check(x, plan)
		expect(t, "shuffled", y, plan2, verdict{c, day, e})
		vital, _ := bloom.Vital(x, plan)
		var want []int
		for i, colony := range colonies {
			if slices.Contains(vital, colony) {
				want = append(want, i)
			}
		}
		expectVital(t, "shuffled", y, plan2, want, e)
	})
}

// P4.5: arguments are only read.
func TestArgumentsAreOnlyRead(t *testing.T) {
	seen, plan := []api.Span{span(8, 9), span(6, 8)}, cheapOne()
	bloom.Strength(api.Inspection{Hives: 10, Least: 4, Most: 12, Seen: seen})
	if !slices.Equal(seen, []api.Span{span(8, 9), span(6, 8)}) {
		t.Error(seen)
	}
	eachWorld(func(seed uint64, r world) {
		x := r.someBloom()
		plan, y := r.somePlan(x), clone(x)
		plan2 := clonePlan(plan)
		bloom.Check(x, plan)
		bloom.Vital(x, plan)
		best, _, _ := bloom.Cheapest(x)
		best2 := clonePlan(best)
		bloom.Vital(x, best)
		if !sameBloom(x, y) || !samePlan(plan, plan2) || !samePlan(best, best2) {
			t.Fatal(seed, x, plan, best)
		}
	})
	bloom.Vital(example(), plan)
	if !samePlan(plan, cheapOne()) {
		t.Error(plan)
	}
}

// P4.5: results are newly allocated: one that is changed, or to which something is appended, changes no other one, and no part of itself.
func TestResultsAreNew(t *testing.T) {
	x := example()
	plan, _, _ := bloom.Cheapest(x)
	again, _, _ := bloom.Cheapest(x)
	for _, row := range plan {
		_ = append(row, 77)
	}
	if !samePlan(plan, cheapOne()) {
		t.Error("a row shares", plan)
	}
	clear(plan[1])
	plan[2] = nil
	if !samePlan(plan, [][]int{{0, -1, -1}, {0, 0, 0}, nil}) || !samePlan(again, cheapOne()) || !sameBloom(x, example()) {
		t.Error("shared", plan, again, x)
	}
	vital, _ := bloom.Vital(x, again)
	vital2, _ := bloom.Vital(x, again)
	clear(vital)
	if !slices.Equal(vital2, []int{0, 2}) || !samePlan(again, cheapOne()) {
		t.Error("shared", vital2, again)
	}
	expectCheapest(t, "once more", x, offer{cheapOne(), 22}, api.OK)
}
