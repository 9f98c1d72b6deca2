package permit_test

import (
	"slices"
	"testing"

	"fenberry/api"
	"fenberry/permit"
)

// P13.8, P11: the order of discharges makes no difference.
func TestOrderOfDischarges(t *testing.T) {
	eachWorld(func(seed uint64, r world) {
		l, days, day := r.someDischarges(), r.someDays(), r.upTo(r.day)
		limit := r.someLimit(l, days)
		surely, perhaps, e := permit.Passed(l, days, limit)
		n, e2 := permit.Allow(l, days, limit, day)
		other := slices.Clone(l)
		for range 3 {
			r.Shuffle(len(other), func(i, j int) { other[i], other[j] = other[j], other[i] })
			expectPassed(t, "other order", other, days, limit, surely, perhaps, e)
			expectAllow(t, "other order", other, days, limit, day, n, e2)
		}
		if t.Failed() {
			t.Fatal(seed)
		}
	})
}

// P11: the order of nests makes no difference, nor do nests in other reaches.
func TestOrderOfNests(t *testing.T) {
	eachWorld(func(seed uint64, r world) {
		w := r.someWaiting()
		l, e := w.schedule()
		r.Shuffle(len(w.nests), func(i, j int) { w.nests[i], w.nests[j] = w.nests[j], w.nests[i] })
		expectSchedule(t, "other order", w, l, e)
		w.nests = slices.DeleteFunc(w.nests, func(n api.Nest) bool { return n.Reach != w.reach })
		expectSchedule(t, "other reaches", w, l, e)
		if t.Failed() {
			t.Fatal(seed)
		}
	})
}

// P13.1: a discharge that is parted in two on the same day makes no difference.
func TestPartedDischarge(t *testing.T) {
	parted := 0
	eachWorld(func(seed uint64, r world) {
		l, days, day := r.someDischarges(), r.someDays(), r.upTo(r.day)
		if len(l) == 0 || len(l) == 64 {
			return
		}
		i, limit := r.IntN(len(l)), r.someLimit(l, days)
		other, part := slices.Clone(l), l[i]
		part.Water = span(l[i].Water.Lo/2, l[i].Water.Lo/2+(l[i].Water.Hi-l[i].Water.Lo)/2)
		other[i].Water = span(l[i].Water.Lo-part.Water.Lo, l[i].Water.Hi-part.Water.Hi)
		other = append(other, part)
		surely, perhaps, e := permit.Passed(l, days, limit)
		expectPassed(t, "parted", other, days, limit, surely, perhaps, e)
		n, e := permit.Allow(l, days, limit, day)
		expectAllow(t, "parted", other, days, limit, day, n, e)
		parted++
		if t.Failed() {
			t.Fatal(seed)
		}
	})
	if parted < 200 {
		t.Error("too few", parted)
	}
}

// P3: with narrower spans results are within those with wider ones.
func TestNarrowerSpans(t *testing.T) {
	isWithin := func(a, b api.Span) bool { return b.Lo <= a.Lo && a.Hi <= b.Hi }
	eachWorld(func(seed uint64, r world) {
		a, b, warm, limit := r.someFlow(), r.someFlow(), r.someSpan(r.warm), r.upTo(r.warm)
		c, d := api.Flow{Water: r.narrower(a.Water), Warm: r.narrower(a.Warm)}, api.Flow{Water: r.narrower(b.Water), Warm: r.narrower(b.Warm)}
		wide, e := permit.Mix(a, b)
		if narrow, e2 := permit.Mix(c, d); e == api.OK && (e2 != api.OK || !isWithin(narrow, wide)) {
			t.Fatal(seed, a, b, wide, c, d, narrow, e2)
		}
		least, e := permit.Most(a, warm, limit)
		if n, e2 := permit.Most(c, r.narrower(warm), limit); e == api.OK && (e2 != api.OK || n < least) {
			t.Fatal(seed, a, c, warm, limit, least, n, e2)
		}
		x := r.somePhosphorus()
		y := api.Phosphorus{Before: r.narrower(x.Before), In: r.narrower(x.In), Out: r.narrower(x.Out), Berries: r.narrower(x.Berries), Content: r.narrower(x.Content)}
		left, berries, e := permit.Balance(x)
		if l, n, e2 := permit.Balance(y); e2 == api.OK && (e != api.OK || !isWithin(l, left) || !isWithin(n, berries)) {
			t.Fatal(seed, x, y, left, l, berries, n, e)
		}
	})
}

// P13.7, R4: arguments are only read.
func TestArgumentsAreOnlyRead(t *testing.T) {
	eachWorld(func(seed uint64, r world) {
		// Room behind the end of a list is not the function's either.
		l := append(r.someDischarges(), lets(1, 2, 3))
		w := r.someWaiting()
		loads, nests := append(w.loads, 77), append(w.nests, api.Nest{Reach: 1})
		keptDischarges, keptLoads, keptNests := slices.Clone(l), slices.Clone(loads), slices.Clone(nests)
		w.loads, w.nests = loads[:len(loads)-1], nests[:len(nests)-1]
		days, limit := r.someDays(), r.someLimit(l, 3)
		permit.Passed(l[:len(l)-1], days, limit)
		permit.Allow(l[:len(l)-1], days, limit, r.upTo(r.day))
		w.schedule()
		if !slices.Equal(l, keptDischarges) || !slices.Equal(loads, keptLoads) || !slices.Equal(nests, keptNests) {
			t.Fatal(seed, l, keptDischarges, loads, keptLoads, nests, keptNests)
		}
	})
}

// P13.7, R4: results are new: one that is changed changes no other one, and no argument changes one later.
func TestResultsAreNew(t *testing.T) {
	w := exampleWaiting()
	first, _ := w.schedule()
	clear(first)
	second, _ := w.schedule()
	clear(w.loads)
	clear(w.nests)
	if !slices.Equal(second, []int{5, 10, 13}) {
		t.Error("shared", second)
	}
	expectSchedule(t, "again", exampleWaiting(), []int{5, 10, 13}, api.OK)
}

// P11: the same call gives the same, whatever was called ahead of it.
func TestSameAgain(t *testing.T) {
	eachWorld(func(seed uint64, r world) {
		l, days, day := r.someDischarges(), r.someDays(), r.upTo(r.day)
		limit := r.someLimit(l, days)
		a, b, x, w := r.someFlow(), r.someFlow(), r.somePhosphorus(), r.someWaiting()
		surely, perhaps, e1 := permit.Passed(l, days, limit)
		n, e2 := permit.Allow(l, days, limit, day)
		s, e3 := permit.Mix(a, b)
		most, e4 := permit.Most(a, b.Warm, 20000)
		plan, e5 := w.schedule()
		left, berries, e6 := permit.Balance(x)
		callAll(t, arguments{l: r.someDischarges(), days: 2, limit: 3, a: b, b: a, warm: a.Warm, waiting: r.someWaiting(), x: r.somePhosphorus()})
		expectPassed(t, "again", l, days, limit, surely, perhaps, e1)
		expectAllow(t, "again", l, days, limit, day, n, e2)
		expectMix(t, "again", a, b, s, e3)
		expectMost(t, "again", a, b.Warm, 20000, most, e4)
		expectSchedule(t, "again", w, plan, e5)
		expectBalance(t, "again", x, left, berries, e6)
		if t.Failed() {
			t.Fatal(seed)
		}
	})
}
