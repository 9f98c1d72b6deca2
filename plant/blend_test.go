package plant_test

import (
	"slices"
	"testing"

	"fenberry/api"
	"fenberry/plant"
)

// P9.4: the chapter's examples.
func TestBlendExamples(t *testing.T) {
	r := exampleRecipe()
	expectBlend(t, "example", exampleTanks(), r, []int{7, 3, 0}, 91, api.OK)
	r.Acid.Hi = 217
	expectBlend(t, "less acid", exampleTanks(), r, []int{5, 4, 1}, 93, api.OK)
}

// P9.4: of several blends that cost as much, the first one in lexicographic order.
func TestBlendFirstOne(t *testing.T) {
	same := slices.Repeat([]api.Tank{{Units: 2, Price: 3}}, 3)
	for units, want := range map[int][]int{1: {0, 0, 1}, 2: {0, 0, 2}, 3: {0, 1, 2}, 4: {0, 2, 2}, 5: {1, 2, 2}, 6: {2, 2, 2}} {
		expectBlend(t, "same", same, anyJuice(units), want, 3*units, api.OK)
	}
	free := []api.Tank{{Units: 1}, {Units: 2}, {Units: 0}, {Units: 12}}
	expectBlend(t, "free", free, anyJuice(13), []int{0, 1, 0, 12}, 0, api.OK)
	expectBlend(t, "free", free, anyJuice(15), []int{1, 2, 0, 12}, 0, api.OK)
	// One unit at 4 and one at 2 cost as much as two at 3.
	expectBlend(t, "as much", []api.Tank{{Units: 2, Price: 4}, {Units: 2, Price: 3}, {Units: 1, Price: 2}}, anyJuice(2), []int{0, 1, 1}, 5, api.OK)
	expectBlend(t, "as much", []api.Tank{{Units: 2, Price: 4, Sugar: 4}, {Units: 2, Price: 3, Sugar: 3}, {Units: 1, Price: 2, Sugar: 2}}, api.Recipe{Units: 2, Sugar: span(3, 3)}, []int{0, 2, 0}, 6, api.OK)
	expectBlend(t, "cheaper but later", []api.Tank{{Units: 2, Price: 2}, {Units: 2, Price: 3}}, anyJuice(2), []int{2, 0}, 4, api.OK)
}

// P9.4: sugar, acid and colour are compared exactly, and both ends belong to the spans.
func TestBlendEnds(t *testing.T) {
	for _, field := range []struct {
		of func(t *api.Tank) *int
		in func(r *api.Recipe) *api.Span
	}{
		{func(t *api.Tank) *int { return &t.Sugar }, func(r *api.Recipe) *api.Span { return &r.Sugar }},
		{func(t *api.Tank) *int { return &t.Acid }, func(r *api.Recipe) *api.Span { return &r.Acid }},
		{func(t *api.Tank) *int { return &t.Colour }, func(r *api.Recipe) *api.Span { return &r.Colour }},
	} {
		// Two units of 10 and one of 11 are 31 together, which is neither 3 times 10 nor 3 times 11.
		l := []api.Tank{{Units: 2, Price: 1}, {Units: 1, Price: 1}}
		*field.of(&l[0]), *field.of(&l[1]) = 10, 11
		for _, c := range []struct {
			s    api.Span
			want api.Errno
		}{{span(10, 11), api.OK}, {span(10, 10), api.ErrNone}, {span(11, 11), api.ErrNone}, {span(0, 10), api.ErrNone}, {span(11, 10000), api.ErrNone}, {span(0, 11), api.OK}, {span(10, 10000), api.OK}} {
			r := anyJuice(3)
			*field.in(&r) = c.s
			want, cost := []int{2, 1}, 3
			if c.want != api.OK {
				want, cost = nil, 0
			}
			expectBlend(t, "between", l, r, want, cost, c.want)
		}
		*field.of(&l[1]) = 13
		for _, c := range []struct {
			s    api.Span
			want api.Errno
		}{{span(11, 11), api.OK}, {span(0, 11), api.OK}, {span(11, 10000), api.OK}, {span(0, 10), api.ErrNone}, {span(12, 10000), api.ErrNone}} {
			r := anyJuice(3)
			*field.in(&r) = c.s
			want, cost := []int{2, 1}, 3
			if c.want != api.OK {
				want, cost = nil, 0
			}
			expectBlend(t, "exactly", l, r, want, cost, c.want)
		}
	}
}

// P9.4: ErrNone if there is no blend.
func TestBlendNone(t *testing.T) {
	r := exampleRecipe()
	r.Acid = span(261, 300)
	expectBlend(t, "too little acid", exampleTanks(), r, nil, 0, api.ErrNone)
	expectBlend(t, "all tanks", exampleTanks(), anyJuice(23), []int{10, 8, 5}, 231, api.OK)
	expectBlend(t, "too much", exampleTanks(), anyJuice(24), nil, 0, api.ErrNone)
	expectBlend(t, "too much", exampleTanks(), anyJuice(60), nil, 0, api.ErrNone)
	expectBlend(t, "no tank", nil, anyJuice(1), nil, 0, api.ErrNone)
	expectBlend(t, "no tank", nil, anyJuice(60), nil, 0, api.ErrNone)
	expectBlend(t, "empty tanks", make([]api.Tank, 5), anyJuice(1), nil, 0, api.ErrNone)
}

// P9.4: numbers at the limits.
func TestBlendLimits(t *testing.T) {
	full := slices.Repeat([]api.Tank{{Units: 12, Sugar: 10000, Acid: 10000, Colour: 10000, Price: 1 << 20}}, 5)
	expectBlend(t, "all", full, anyJuice(60), []int{12, 12, 12, 12, 12}, 60<<20, api.OK)
	strong := api.Recipe{Units: 60, Sugar: span(10000, 10000), Acid: span(10000, 10000), Colour: span(10000, 10000)}
	expectBlend(t, "all strong", full, strong, []int{12, 12, 12, 12, 12}, 60<<20, api.OK)
	strong.Units = 30
	expectBlend(t, "half of them", full, strong, []int{0, 0, 6, 12, 12}, 30<<20, api.OK)
	expectBlend(t, "one unit", full, anyJuice(1), []int{0, 0, 0, 0, 1}, 1<<20, api.OK)
}

// P9.4: as by counting through all units.
func TestBlendIsJudge(t *testing.T) {
	found, none := 0, 0
	judge := func(seed uint64, r world) {
		l := r.someTanks()
		for range 3 {
			recipe := r.someRecipe(l)
			want, cost, wantError := judgeBlend(l, recipe)
			expectBlend(t, "judge", l, recipe, want, cost, wantError)
			if wantError == api.OK {
				found++
			} else {
				none++
			}
		}
		if t.Failed() {
			t.Fatal(seed)
		}
	}
	eachSmall(judge)
	for seed := range uint64(200) {
		judge(seed, newWorld(seed, plain()))
	}
	for seed := range uint64(20) {
		judge(seed, newWorld(seed, great()))
	}
	if min(found, none) < 500 {
		t.Error("too few", found, none)
	}
}

// P9.9: what is blended is a blend, its cost is that of its units, and no other one that is tried costs less.
func TestBlended(t *testing.T) {
	dearer := 0
	eachWorld(func(seed uint64, r world) {
		l := r.someTanks()
		recipe := r.someRecipe(l)
		units, cost, e := plant.Blend(l, recipe)
		if e != api.OK {
			return
		}
		if len(units) != len(l) || !isBlend(l, recipe, units) || cost != costOf(l, units) {
			t.Fatal(seed, l, recipe, units, cost)
		}
		for range 50 {
			other := slices.Clone(units)
			from, to := r.IntN(len(l)), r.IntN(len(l))
			other[from]--
			other[to]++
			if isBlend(l, recipe, other) && costOf(l, other) < cost {
				t.Fatal(seed, l, recipe, units, other)
			}
			if isBlend(l, recipe, other) && costOf(l, other) > cost {
				dearer++
			}
		}
	})
	if dearer < 500 {
		t.Error("too few", dearer)
	}
}

// P9.9: with one more unit in a tank, or a wider span, it costs no more.
func TestMoreToBlendCostsNoMore(t *testing.T) {
	cheaper := 0
	noMore := func(seed uint64, cost int, l []api.Tank, recipe api.Recipe) {
		t.Helper()
		_, other, e := plant.Blend(l, recipe)
		if e != api.OK || other > cost {
			t.Fatal(seed, l, recipe, other, e, "instead of at most", cost)
		}
		if other < cost {
			cheaper++
		}
	}
	eachWorld(func(seed uint64, r world) {
		l := r.someTanks()
		recipe := r.someRecipe(l)
		_, cost, e := plant.Blend(l, recipe)
		if e != api.OK {
			return
		}
		for i := range l {
			more := slices.Clone(l)
			more[i].Units = min(12, more[i].Units+1)
			noMore(seed, cost, more, recipe)
		}
		for i := range 3 {
			wider := recipe
			s := []*api.Span{&wider.Sugar, &wider.Acid, &wider.Colour}[i]
			*s = span(r.between(0, s.Lo), r.between(s.Hi, 10000))
			noMore(seed, cost, l, wider)
		}
	})
	if cheaper < 200 {
		t.Error("too few", cheaper)
	}
}
