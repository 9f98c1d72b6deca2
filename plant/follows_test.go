package plant_test

import (
	"slices"
	"testing"

	"fenberry/api"
	"fenberry/plant"
)

// P9.7, P8: what is in all bins together is what came in, of each of the four numbers.
func TestConserved(t *testing.T) {
	eachWorld(func(seed uint64, r world) {
		m, in := r.somePlant(), r.someStream()
		together := api.Stream{}
		for _, s := range plantRun(m, in) {
			for _, q := range quantities() {
				if *q.in(&s) < 0 {
					t.Fatal(seed, m, in, s)
				}
				*q.in(&together) += *q.in(&s)
			}
		}
		if together != in {
			t.Fatal(seed, m, in, together)
		}
	})
}

// P9.7: each of the four numbers goes its way without regard to the other three.
func TestEachGoesItsWay(t *testing.T) {
	eachWorld(func(seed uint64, r world) {
		m, in := r.somePlant(), r.someStream()
		bins := plantRun(m, in)
		for i, q := range quantities() {
			other, otherIn := clonePlant(m), r.someStream()
			for k, p := range quantities() {
				for _, x := range other {
					for o := range x.Outlets {
						if k != i {
							*p.of(&x.Outlets[o]) /= 2
						}
					}
				}
			}
			*q.in(&otherIn) = *q.in(&in)
			for bin, s := range plantRun(other, otherIn) {
				if *q.in(&s) != *q.in(&bins[bin]) {
					t.Fatal(seed, m, in, other, otherIn, bin)
				}
			}
		}
	})
}

// The numbers of the last outlet make no difference.
func TestLastOutletIsNotLookedAt(t *testing.T) {
	eachWorld(func(seed uint64, r world) {
		m, in := r.somePlant(), r.someStream()
		bins := plantRun(m, in)
		other := clonePlant(m)
		for i, x := range other {
			last := len(x.Outlets) - 1
			other[i].Outlets[last] = all(x.Outlets[last].To, r.between(0, 1000))
		}
		expectRun(t, "other", other, in, bins, api.OK)
	})
}

// R3: nil and an empty list are the same.
func TestNilIsEmpty(t *testing.T) {
	if e := plant.Check([]api.Machine{}); e != api.OK || plant.Check(nil) != api.OK {
		t.Error(e)
	}
	for _, outlets := range [][]api.Outlet{nil, {}} {
		if e := plant.Check([]api.Machine{{Outlets: outlets}}); e != api.ErrArg {
			t.Error(e)
		}
	}
	in := exampleStream()
	expectRun(t, "empty", []api.Machine{}, in, inBins(map[int]api.Stream{0: in}), api.OK)
	expectRun(t, "nil", nil, in, inBins(map[int]api.Stream{0: in}), api.OK)
	expectBlend(t, "empty", []api.Tank{}, anyJuice(1), nil, 0, api.ErrNone)
	expectFrozen(t, "empty", []api.Freeze{}, 1, nil, api.OK)
	expectRate(t, "empty", []api.Freeze{}, 1, api.OK)
}

// P11: the order of tanks makes no difference to the cost, nor that of lots to the rate.
func TestOrderDoesNotMatter(t *testing.T) {
	eachWorld(func(seed uint64, r world) {
		tanks, lots := r.someTanks(), r.someLots()
		recipe := r.someRecipe(tanks)
		_, cost, e := plant.Blend(tanks, recipe)
		rate, f := plant.Rate(lots)
		r.Shuffle(len(tanks), func(i, j int) { tanks[i], tanks[j] = tanks[j], tanks[i] })
		r.Shuffle(len(lots), func(i, j int) { lots[i], lots[j] = lots[j], lots[i] })
		if _, other, g := plant.Blend(tanks, recipe); other != cost || e != g {
			t.Fatal(seed, tanks, recipe, cost, e, other, g)
		}
		expectRate(t, "other order", lots, rate, f)
	})
}

// P11: nor does the order of lots to when each one is frozen, if they are due in different hours.
func TestOrderOfLotsDoesNotMatter(t *testing.T) {
	different := 0
	eachWorld(func(seed uint64, r world) {
		lots, rate := r.someLots(), r.someRate()
		slices.SortFunc(lots, func(a, b api.Freeze) int { return a.Due - b.Due })
		lots = slices.CompactFunc(lots, func(a, b api.Freeze) bool { return a.Due == b.Due })
		done, e := plant.Frozen(lots, rate)
		r.Shuffle(len(lots), func(i, j int) {
			lots[i], lots[j] = lots[j], lots[i]
			done[i], done[j] = done[j], done[i]
		})
		expectFrozen(t, "other order", lots, rate, done, e)
		if len(lots) > 3 {
			different++
		}
	})
	if different < 300 {
		t.Error("too few", different)
	}
}

// R4: arguments are only read.
func TestArgumentsAreOnlyRead(t *testing.T) {
	eachWorld(func(seed uint64, r world) {
		m, tanks, lots := r.somePlant(), r.someTanks(), r.someLots()
		machines, juice, berries := clonePlant(m), slices.Clone(tanks), slices.Clone(lots)
		plant.Check(m)
		plant.Run(m, r.someStream())
		plant.Blend(tanks, r.someRecipe(tanks))
		plant.Frozen(lots, r.someRate())
		plant.Rate(lots)
		same := slices.EqualFunc(m, machines, func(a, b api.Machine) bool { return slices.Equal(a.Outlets, b.Outlets) })
		if !same || !slices.Equal(tanks, juice) || !slices.Equal(lots, berries) {
			t.Fatal(seed, m, machines, tanks, juice, lots, berries)
		}
	})
}

// R4: results are new: one that is changed changes no other one, and no later call.
func TestResultsAreNew(t *testing.T) {
	m, tanks, lots := examplePlant(), exampleTanks(), exampleLots()
	bins, _ := plant.Run(m, exampleStream())
	units, _, _ := plant.Blend(tanks, exampleRecipe())
	done, _ := plant.Frozen(lots, 100)
	keptBins, keptUnits, keptDone := slices.Clone(bins), slices.Clone(units), slices.Clone(done)
	clear(bins)
	clear(units)
	clear(done)
	expectRun(t, "again", m, exampleStream(), keptBins, api.OK)
	expectBlend(t, "again", tanks, exampleRecipe(), keptUnits, 91, api.OK)
	expectFrozen(t, "again", lots, 100, keptDone, api.OK)
	// Whoever appends to a result changes nothing, either.
	units, _, _ = plant.Blend(tanks, exampleRecipe())
	_ = append(units, 7)
	expectBlend(t, "again", tanks, exampleRecipe(), keptUnits, 91, api.OK)
}

// P11: the same call gives the same, whatever was called ahead of it.
func TestSameAgain(t *testing.T) {
	eachWorld(func(seed uint64, r world) {
		m, in, tanks, lots, rate := r.somePlant(), r.someStream(), r.someTanks(), r.someLots(), r.someRate()
		recipe := r.someRecipe(tanks)
		bins, e := plant.Run(m, in)
		units, cost, f := plant.Blend(tanks, recipe)
		done, g := plant.Frozen(lots, rate)
		least, h := plant.Rate(lots)
		plant.Run(r.somePlant(), r.someStream())
		plant.Blend(r.someTanks(), recipe)
		plant.Frozen(r.someLots(), rate)
		plant.Rate(r.someLots())
		expectRun(t, "again", m, in, bins, e)
		expectBlend(t, "again", tanks, recipe, units, cost, f)
		expectFrozen(t, "again", lots, rate, done, g)
		expectRate(t, "again", lots, least, h)
		if t.Failed() {
			t.Fatal(seed)
		}
	})
}
