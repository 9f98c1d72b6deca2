package quota_test

import (
	"math"
	"slices"
	"testing"

	"fenberry/api"
	"fenberry/quota"
)

// badNumbers are numbers for other arguments; some of them are beyond their ranges.
func badNumbers() []int { return []int{0, 1, -1, 1<<40 + 1, math.MinInt, math.MaxInt} }

// callAll calls all functions, and returns their errors; it checks that there are no results with an error.
func callAll(t *testing.T, l []api.Crop, g api.Glut, number int, events []api.QuotaEvent) [4]api.Errno {
	t.Helper()
	q, e0 := quota.Quotas(l, g)
	n, e1 := quota.Percent(l, g, number)
	a, _, e2 := quota.Play(l, g, events)
	s, e3 := quota.Shares(l, g, number)
	errors := [4]api.Errno{e0, e1, e2, e3}
	for i, zero := range []bool{len(q) == 0, n == 0, len(a) == 0, len(s) == 0} {
		if errors[i] != api.OK && !zero {
			t.Error("a result with an error", l, g, number, events, i, errors[i])
		}
	}
	return errors
}

// takes checks that all functions take crops and a glut, or that all return ErrArg, also if their other arguments are not valid.
func takes(t *testing.T, name string, valid bool, l []api.Crop, g api.Glut) {
	t.Helper()
	for _, n := range badNumbers() {
		errors := callAll(t, l, g, n, nil)
		for i, e := range errors {
			if valid == (e == api.ErrArg) {
				t.Error(name, l, g, n, i, e)
			}
		}
	}
	for _, many := range []int{1, 257} {
		_, index, e := quota.Play(l, g, make([]api.QuotaEvent, many))
		if !valid && (e != api.ErrArg || index != 0) || valid && many > 256 && e != api.ErrLong {
			t.Error(name, l, g, many, index, e)
		}
	}
	if _, index, e := quota.Play(l, g, []api.QuotaEvent{brings(3, 1), {}}); !valid && (index != 0 || e != api.ErrArg) {
		t.Error(name, l, g, index, e)
	}
}

// near returns strange numbers, and those about the ends of a range.
func near(least, most int) []int {
	return append(strangeNumbers(), least-1, least, least+1, most-1, most, most+1)
}

// P12.1 to P12.4: which gluts are valid.
func TestValidGluts(t *testing.T) {
	for name, c := range map[string]struct {
		least, most int
		field       func(g *api.Glut) *int
	}{
		"year":    {0, 9999, func(g *api.Glut) *int { return &g.Year }},
		"years":   {2, 10, func(g *api.Glut) *int { return &g.Years }},
		"best":    {1, 4, func(g *api.Glut) *int { return &g.Best }},
		"percent": {0, 1000, func(g *api.Glut) *int { return &g.Percent }},
	} {
		for _, n := range near(c.least, c.most) {
			g := exampleGlut()
			*c.field(&g) = n
			takes(t, name, n >= c.least && n <= c.most, exampleCrops(), g)
			takes(t, name, n >= c.least && n <= c.most, nil, g)
		}
	}
	for years := -1; years <= 12; years++ {
		for best := -1; best <= 12; best++ {
			g := api.Glut{Year: 2026, Years: years, Best: best}
			takes(t, "best of years", years >= 1 && years <= 10 && best >= 1 && best <= years, exampleCrops(), g)
		}
	}
	takes(t, "nothing", false, nil, api.Glut{})
}

// P12.1 to P12.4: which crops are valid.
func TestValidCrops(t *testing.T) {
	for name, c := range map[string]struct {
		most  int
		field func(c *api.Crop) *int
	}{
		"grower": {1023, func(c *api.Crop) *int { return &c.Grower }},
		"year":   {9999, func(c *api.Crop) *int { return &c.Year }},
		"amount": {1 << 40, func(c *api.Crop) *int { return &c.Amount }},
	} {
		for _, n := range near(0, c.most) {
			for i := range 8 {
				crop := api.Crop{Grower: 77, Year: 88, Amount: 99}
				*c.field(&crop) = n
				takes(t, name, n >= 0 && n <= c.most, slices.Insert(exampleCrops(), i, crop), exampleGlut())
			}
		}
	}
}

// P12.1 to P12.4: no two crops are of the same grower and year, also if neither counts.
func TestCropsTwice(t *testing.T) {
	for _, first := range exampleCrops() {
		for i := range 8 {
			again := first
			again.Amount++
			takes(t, "twice", false, slices.Insert(exampleCrops(), i, again), exampleGlut())
			takes(t, "twice", false, slices.Insert(exampleCrops(), i, first), exampleGlut())
		}
	}
	// A year of one grower and the same number as another one's are not the same.
	takes(t, "not twice", true, []api.Crop{{Grower: 5, Year: 6}, {Grower: 6, Year: 5}, {Grower: 5, Year: 5}, {Grower: 6, Year: 6}, {Grower: 0, Year: 1029}, {Grower: 1, Year: 5}, {Grower: 5, Year: 1030}, {Grower: 5, Year: 262}}, exampleGlut())
}

// P12.1 to P12.4: there may be 256 crops.
func TestManyCrops(t *testing.T) {
	var l []api.Crop
	for i := range 300 {
		l = append(l, api.Crop{Grower: i % 7, Year: 2000 + i/7, Amount: i})
	}
	for n, valid := range map[int]bool{0: true, 1: true, 255: true, 256: true, 257: false, 300: false} {
		takes(t, "many", valid, l[:n], exampleGlut())
	}
	l[255] = l[0]
	takes(t, "the last one twice", false, l[:256], exampleGlut())
	l[255] = api.Crop{Grower: 1024}
	takes(t, "the last one", false, l[:256], exampleGlut())
}

// P12.3: which events are valid; R8: To is not looked at when berries are brought.
func TestValidEvents(t *testing.T) {
	l, g := exampleCrops(), exampleGlut()
	valid := func(name string, is bool, v api.QuotaEvent) {
		t.Helper()
		a, index, e := quota.Play(l, g, []api.QuotaEvent{brings(3, 1), v})
		if is == (e == api.ErrArg) || e != api.OK && (index != 1 || len(a) > 0) {
			t.Error(name, v, a, index, e)
		}
	}
	for _, n := range strangeNumbers() {
		for kind := range 2 {
			valid("grower", n >= 0 && n <= 1023, api.QuotaEvent{Kind: kind, Grower: n, To: 3, Amount: 1})
			valid("amount", n >= 1 && n <= 1<<40, api.QuotaEvent{Kind: kind, Grower: 8, To: 3, Amount: n})
		}
		valid("kind", n == 0 || n == 1, api.QuotaEvent{Kind: n, Grower: 8, To: 3, Amount: 1})
		valid("to", n >= 0 && n <= 1023, leases(8, n, 1))
		valid("not looked at", true, api.QuotaEvent{Kind: api.Bring, Grower: 8, To: n, Amount: 1})
		expectPlay(t, "not looked at", l, g, []api.QuotaEvent{{Kind: api.Bring, Grower: 8, To: n, Amount: 5}}, []api.Account{{Grower: 3, Quota: 1147}, {Grower: 8, Quota: 425, Used: 5}}, 1, api.OK)
	}
	// That it is not valid comes ahead of the errors of its kind.
	expectPlay(t, "none", l, g, []api.QuotaEvent{brings(5, 0)}, nil, 0, api.ErrArg)
	expectPlay(t, "none", l, g, []api.QuotaEvent{leases(5, 1024, 1)}, nil, 0, api.ErrArg)
	expectPlay(t, "twice", l, g, []api.QuotaEvent{leases(3, 3, 0)}, nil, 0, api.ErrArg)
	expectPlay(t, "short", l, g, []api.QuotaEvent{leases(3, 8, 1<<40+1)}, nil, 0, api.ErrArg)
}

// P1, R2: no function panics, and none gives a result with an error.
func TestStrangeArguments(t *testing.T) {
	errors := map[api.Errno]int{}
	for seed := range uint64(3000) {
		r := newWorld(seed, plain())
		strange := func() int { return strangeNumbers()[r.IntN(len(strangeNumbers()))] }
		l, g, events := r.someCrops(), r.someGlut(), append(exampleEvents(), r.someEvents(exampleCrops(), exampleGlut())...)
		if r.IntN(2) == 0 {
			l, g = exampleCrops(), exampleGlut()
		}
		crop, v := &api.Crop{}, &events[r.IntN(len(events))]
		if len(l) > 0 {
			crop = &l[r.IntN(len(l))]
		}
		for range r.IntN(3) {
			*[]*int{&crop.Grower, &crop.Year, &crop.Amount, &g.Year, &g.Years, &g.Best, &g.Percent, &v.Kind, &v.Grower, &v.To, &v.Amount}[r.IntN(11)] = strange()
		}
		for _, e := range callAll(t, l, g, strange(), events) {
			errors[e]++
		}
	}
	for _, e := range []api.Errno{api.OK, api.ErrArg, api.ErrRange, api.ErrNone, api.ErrShort} {
		if errors[e] < 50 {
			t.Error("too few", errors)
		}
	}
}
