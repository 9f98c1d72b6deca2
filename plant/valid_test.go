package plant_test

import (
	"math"
	"slices"
	"testing"

	"fenberry/api"
	"fenberry/plant"
)

// plantIs checks that Check and Run take the machines, or that both return ErrArg, whatever the stream is.
func plantIs(t *testing.T, name string, valid bool, m []api.Machine) {
	t.Helper()
	want := api.ErrArg
	if valid {
		want = api.OK
	}
	if e := plant.Check(m); e != want {
		t.Error(name, m, e)
	}
	if l, e := plant.Run(m, exampleStream()); e != want || valid != (len(l) == 16) {
		t.Error(name, m, l, e)
	}
	if l, e := plant.Run(m, api.Stream{Mass: -1}); e != api.ErrArg || len(l) > 0 {
		t.Error(name, m, l, e)
	}
}

// P9.1: how many machines and outlets there are.
func TestValidPlant(t *testing.T) {
	plantIs(t, "nil", true, nil)
	plantIs(t, "empty", true, []api.Machine{})
	for n, valid := range map[int]bool{0: true, 1: true, 11: true, 12: true, 13: false, 14: false, 1000: false} {
		plantIs(t, "machines", valid, slices.Repeat([]api.Machine{machine(all(-1, 0))}, n))
	}
	for n, valid := range map[int]bool{0: false, 1: true, 2: true, 3: true, 4: true, 5: false, 1000: false} {
		for i := range 3 {
			m := examplePlant()
			m[i].Outlets = slices.Repeat([]api.Outlet{all(-1, 0)}, n)
			plantIs(t, "outlets", valid, m)
		}
	}
}

// P9.1: where an outlet leads: to a greater index, or into a bin.
func TestValidPlaces(t *testing.T) {
	for i := range 3 {
		for k := range 2 {
			for _, to := range strangeNumbers() {
				m := examplePlant()
				m[i].Outlets[k].To = to
				plantIs(t, "to", to >= -16 && to <= -1 || to > i && to < 3, m)
			}
		}
	}
}

// P9.1: each number is from 0 to 1000, also the last outlet's; together those of all others are at most 1000.
func TestValidThousandths(t *testing.T) {
	for _, q := range quantities() {
		for i := range 3 {
			for k := range 2 {
				for _, n := range strangeNumbers() {
					m := examplePlant()
					*q.of(&m[i].Outlets[k]) = n
					plantIs(t, "thousandths", n >= 0 && n <= 1000, m)
				}
			}
		}
		for _, c := range []struct {
			l     []int
			valid bool
		}{
			{[]int{1000, 1000}, true}, {[]int{1000, 0, 1000}, true}, {[]int{1000, 1, 0}, false}, {[]int{1, 1000, 0}, false}, {[]int{500, 501, 0}, false}, {[]int{500, 500, 1000}, true},
			{[]int{400, 300, 300, 1000}, true}, {[]int{400, 300, 301, 0}, false}, {[]int{1000, 1000, 1000, 0}, false}, {[]int{0, 0, 1000, 1}, true}, {[]int{334, 333, 333, 0}, true}, {[]int{334, 334, 333, 0}, false},
			{[]int{1001, -1, 0}, false}, {[]int{-1, 1000, 0}, false}, {[]int{math.MaxInt, math.MaxInt, 2, 0}, false}, {[]int{math.MinInt, math.MinInt, 0}, false},
		} {
			x := api.Machine{}
			for _, n := range c.l {
				o := api.Outlet{To: -1}
				*q.of(&o) = n
				x.Outlets = append(x.Outlets, o)
			}
			plantIs(t, "together", c.valid, []api.Machine{x})
			plantIs(t, "together", c.valid, append(examplePlant(), x))
		}
	}
	// The four numbers are not added to each other.
	plantIs(t, "each", true, []api.Machine{machine(api.Outlet{To: -1, Mass: 1000}, api.Outlet{To: -2, Sugar: 1000}, api.Outlet{To: -3, Acid: 1000}, api.Outlet{To: -4, Colour: 1000})})
	plantIs(t, "all", true, []api.Machine{machine(all(-1, 1000), all(-1, 0), all(-1, 0), all(-1, 1000))})
}

// P9.2, P9.3: a stream's numbers are from 0 to 2^40; to be concentrated it has no more sugar than grams.
func TestValidStreams(t *testing.T) {
	for _, n := range append(strangeNumbers(), 1<<40-1) {
		valid := n >= 0 && n <= 1<<40
		for _, q := range quantities() {
			s := api.Stream{Mass: 1 << 40, Sugar: 7, Acid: 8, Colour: 9}
			*q.in(&s) = n
			for _, m := range [][]api.Machine{nil, examplePlant()} {
				if l, e := plant.Run(m, s); valid != (e == api.OK) || !valid && (e != api.ErrArg || len(l) > 0) {
					t.Error("run", s, l, e)
				}
			}
			for _, strength := range []int{0, 1, 10000, 10001} {
				w, e := plant.Evaporate(s, strength)
				if (valid && s.Sugar <= s.Mass) == (e == api.ErrArg) || e != api.OK && w != 0 {
					t.Error("evaporate", s, strength, w, e)
				}
			}
		}
		expectSugar := api.OK
		if n > 100 || n < 0 {
			expectSugar = api.ErrArg
		}
		if n != 0 {
			_, e := plant.Evaporate(api.Stream{Mass: 100, Sugar: n}, 1)
			if e != expectSugar {
				t.Error("sugar", n, e)
			}
		}
	}
	expectEvaporate(t, "as much sugar", api.Stream{Mass: 100, Sugar: 100}, 1, 0, api.OK)
	expectEvaporate(t, "more sugar", api.Stream{Mass: 100, Sugar: 101}, 1, 0, api.ErrArg)
}

// P9.3: ErrRange unless strength is from 1 to 10000, also without sugar; ErrArg goes ahead of it.
func TestEvaporateRange(t *testing.T) {
	for _, n := range append(strangeNumbers(), 9999) {
		for _, c := range []struct {
			s api.Stream
			e api.Errno
		}{{api.Stream{Mass: 10, Sugar: 10}, api.OK}, {api.Stream{Mass: 10}, api.ErrNone}, {api.Stream{}, api.ErrNone}} {
			want := c.e
			if n < 1 || n > 10000 {
				want = api.ErrRange
			}
			expectEvaporate(t, "strength", c.s, n, 0, want)
		}
		expectEvaporate(t, "strength", api.Stream{Mass: 1, Sugar: 2}, n, 0, api.ErrArg)
		expectEvaporate(t, "strength", api.Stream{Mass: -1, Sugar: -1}, n, 0, api.ErrArg)
	}
}

// blendTakes checks that Blend takes the tanks and the recipe, or that it returns the error and nothing else.
func blendTakes(t *testing.T, name string, want api.Errno, l []api.Tank, r api.Recipe) {
	t.Helper()
	units, cost, e := plant.Blend(l, r)
	if want == api.OK && e != api.OK && e != api.ErrNone || want != api.OK && e != want || e != api.OK && (len(units) > 0 || cost != 0) {
		t.Error(name, l, r, units, cost, e, "instead of", want)
	}
}

// errorUnless returns OK, or an error.
func errorUnless(valid bool, e api.Errno) api.Errno {
	if valid {
		return api.OK
	}
	return e
}

func TestValidTanks(t *testing.T) {
	for n, want := range map[int]api.Errno{0: api.OK, 1: api.OK, 4: api.OK, 5: api.OK, 6: api.ErrLong, 7: api.ErrLong, 1000: api.ErrLong} {
		blendTakes(t, "tanks", want, make([]api.Tank, n), anyJuice(1))
		// ErrLong goes ahead of ErrArg.
		blendTakes(t, "tanks", max(want, api.ErrArg), slices.Repeat([]api.Tank{{Units: -1}}, n), api.Recipe{})
	}
	for i := range 3 {
		for _, n := range strangeNumbers() {
			for _, field := range []struct {
				most int
				of   func(t *api.Tank) *int
			}{
				{12, func(t *api.Tank) *int { return &t.Units }}, {10000, func(t *api.Tank) *int { return &t.Sugar }}, {10000, func(t *api.Tank) *int { return &t.Acid }}, {10000, func(t *api.Tank) *int { return &t.Colour }}, {1 << 20, func(t *api.Tank) *int { return &t.Price }},
			} {
				l := exampleTanks()
				*field.of(&l[i]) = n
				blendTakes(t, "tank", errorUnless(n >= 0 && n <= field.most, api.ErrArg), l, exampleRecipe())
				blendTakes(t, "a tank and no recipe", api.ErrArg, l, api.Recipe{})
			}
		}
	}
}

func TestValidRecipes(t *testing.T) {
	for _, l := range [][]api.Tank{nil, exampleTanks()} {
		for _, n := range append(strangeNumbers(), 59) {
			blendTakes(t, "units", errorUnless(n >= 1 && n <= 60, api.ErrArg), l, anyJuice(n))
		}
		for _, field := range []func(r *api.Recipe) *api.Span{func(r *api.Recipe) *api.Span { return &r.Sugar }, func(r *api.Recipe) *api.Span { return &r.Acid }, func(r *api.Recipe) *api.Span { return &r.Colour }} {
			for _, lo := range strangeNumbers() {
				for _, hi := range strangeNumbers() {
					r := exampleRecipe()
					*field(&r) = span(lo, hi)
					blendTakes(t, "span", errorUnless(0 <= lo && lo <= hi && hi <= 10000, api.ErrArg), l, r)
				}
			}
		}
	}
	blendTakes(t, "zero", api.ErrArg, exampleTanks(), api.Recipe{})
}

// lotsTake checks that Frozen and Rate take the lots, or that both return the error, whatever the rate is.
func lotsTake(t *testing.T, name string, want api.Errno, l []api.Freeze) {
	t.Helper()
	for _, rate := range []int{1, 1 << 44, 0, -1, 1<<44 + 1, math.MinInt, math.MaxInt} {
		both := want
		if want == api.OK && (rate < 1 || rate > 1<<44) {
			both = api.ErrRange
		}
		if done, e := plant.Frozen(l, rate); e != both || e != api.OK && len(done) > 0 {
			t.Error(name, l, rate, done, e, "instead of", both)
		}
	}
	n, e := plant.Rate(l)
	if want == api.OK && e != api.OK && e != api.ErrNone || want != api.OK && e != want || e != api.OK && n != 0 {
		t.Error(name, l, n, e, "instead of", want)
	}
}

func TestValidLots(t *testing.T) {
	for n, want := range map[int]api.Errno{0: api.OK, 1: api.OK, 15: api.OK, 16: api.OK, 17: api.ErrLong, 18: api.ErrLong, 1000: api.ErrLong} {
		lotsTake(t, "lots", want, make([]api.Freeze, n))
		if n > 0 {
			// ErrLong goes ahead of ErrArg.
			lotsTake(t, "lots", max(want, api.ErrArg), slices.Repeat([]api.Freeze{{Mass: -1}}, n))
			bad := make([]api.Freeze, n)
			bad[n-1].Mass = 1<<40 + 1
			lotsTake(t, "the last lot", max(want, api.ErrArg), bad)
		}
	}
	for i := range 3 {
		for _, n := range append(strangeNumbers(), 4, 7, 8, 499) {
			l := exampleLots()
			l[i].Ready = n
			lotsTake(t, "ready", errorUnless(n >= 0 && n <= l[i].Due, api.ErrArg), l)
			l = exampleLots()
			l[i].Due = n
			lotsTake(t, "due", errorUnless(n >= l[i].Ready && n <= 500, api.ErrArg), l)
			l = exampleLots()
			l[i].Mass = n
			lotsTake(t, "mass", errorUnless(n >= 0 && n <= 1<<40, api.ErrArg), l)
			l[i] = api.Freeze{Ready: n, Due: n, Mass: 1}
			lotsTake(t, "both", errorUnless(n >= 0 && n <= 500, api.ErrArg), l)
		}
	}
	// ErrArg goes ahead of ErrNone.
	expectRate(t, "no hour, but another one is wrong", []api.Freeze{lot(3, 3, 1), lot(3, 2, 1)}, 0, api.ErrArg)
}

// P9.5: ErrRange unless rate is from 1 to 2^44, also if there are no lots.
func TestFrozenRange(t *testing.T) {
	for _, rate := range append(strangeNumbers(), 1<<44-1) {
		for _, l := range [][]api.Freeze{nil, {lot(5, 5, 0)}} {
			if rate < 1 || rate > 1<<44 {
				expectFrozen(t, "rate", l, rate, nil, api.ErrRange)
			} else {
				expectFrozen(t, "rate", l, rate, slices.Repeat([]int{5}, len(l)), api.OK)
			}
		}
	}
}

// P1, R2: no function panics, and none gives a result with an error.
func TestStrangeArguments(t *testing.T) {
	errors := map[api.Errno]int{}
	for seed := range uint64(4000) {
		r := newWorld(seed, plain())
		strange := func() int { return strangeNumbers()[r.IntN(len(strangeNumbers()))] }
		m, s := append(examplePlant(), r.somePlant()...), r.someStream()
		tanks, lots := append(r.someTanks(), exampleTanks()...), append(r.someLots(), exampleLots()...)
		recipe := r.someRecipe(tanks)
		x := &m[r.IntN(len(m))]
		o, tank, f := &x.Outlets[r.IntN(len(x.Outlets))], &tanks[r.IntN(len(tanks))], &lots[r.IntN(len(lots))]
		for range r.IntN(3) {
			*[]*int{&o.To, &o.Mass, &o.Sugar, &o.Acid, &o.Colour}[r.IntN(5)] = strange()
			*[]*int{&s.Mass, &s.Sugar, &s.Acid, &s.Colour}[r.IntN(4)] = strange()
			*[]*int{&tank.Units, &tank.Sugar, &tank.Acid, &tank.Colour, &tank.Price}[r.IntN(5)] = strange()
			*[]*int{&recipe.Units, &recipe.Sugar.Lo, &recipe.Sugar.Hi, &recipe.Acid.Lo, &recipe.Acid.Hi, &recipe.Colour.Lo, &recipe.Colour.Hi}[r.IntN(7)] = strange()
			*[]*int{&f.Ready, &f.Due, &f.Mass}[r.IntN(3)] = strange()
		}
		e0 := plant.Check(m)
		bins, e1 := plant.Run(m, s)
		water, e2 := plant.Evaporate(s, strange())
		units, cost, e3 := plant.Blend(tanks, recipe)
		done, e4 := plant.Frozen(lots, strange())
		rate, e5 := plant.Rate(lots)
		all := [6]api.Errno{e0, e1, e2, e3, e4, e5}
		for i, zero := range []bool{true, len(bins) == 0, water == 0, len(units) == 0 && cost == 0, len(done) == 0, rate == 0} {
			if all[i] != api.OK && !zero {
				t.Error("a result with an error", seed, i, all[i])
			}
			errors[all[i]]++
		}
	}
	for _, e := range []api.Errno{api.OK, api.ErrArg, api.ErrRange, api.ErrLong, api.ErrNone} {
		if errors[e] < 50 {
			t.Error("too few", errors)
		}
	}
	if len(errors) != 5 {
		t.Error("other errors", errors)
	}
}
