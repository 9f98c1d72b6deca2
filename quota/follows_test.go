package quota_test

import (
	"slices"
	"testing"

	"fenberry/api"
	"fenberry/quota"
)

// P12.6: a better crop lowers nobody's quota, and changes that of its grower alone.
func TestBetterCrop(t *testing.T) {
	raised, same := 0, 0
	eachWorld(func(seed uint64, r world) {
		l, g := r.someCrops(), r.someGlut()
		if len(l) == 0 {
			return
		}
		i := r.IntN(len(l))
		better := slices.Clone(l)
		better[i].Amount = r.between(l[i].Amount, r.amount)
		before, _ := quota.Quotas(l, g)
		after, e := quota.Quotas(better, g)
		if e != api.OK || len(after) != len(before) {
			t.Fatal(seed, l, better, g, before, after, e)
		}
		for k, q := range before {
			if after[k] != q && (q.Grower != l[i].Grower || after[k].Grower != q.Grower || after[k].Base < q.Base || after[k].Amount < q.Amount) {
				t.Fatal(seed, l, better, g, q, after[k])
			}
			if after[k] != q {
				raised++
			}
		}
		if slices.Equal(before, after) {
			same++
		}
	})
	if min(raised, same) < 30 {
		t.Error("too few", raised, same)
	}
}

// P12.6: a greater percent lowers nobody's quota; with a greater demand the percent is no less.
func TestMoreLowersNothing(t *testing.T) {
	eachWorld(func(seed uint64, r world) {
		l, g := r.someCrops(), r.someGlut()
		more := g
		more.Percent = r.between(g.Percent, 1000)
		q, _ := quota.Quotas(l, g)
		p, _ := quota.Quotas(l, more)
		for i, x := range q {
			if p[i].Base != x.Base || p[i].Amount < x.Amount || x.Amount > x.Base || p[i].Grower != x.Grower {
				t.Fatal(seed, l, g, more, x, p[i])
			}
		}
		demand := r.someDemand(l, g)
		n, _ := quota.Percent(l, g, demand)
		m, _ := quota.Percent(l, g, r.between(demand, 1<<40))
		if n > m {
			t.Fatal(seed, l, g, demand, n, m)
		}
	})
}

// P12.1, P12.4: crops in years that do not count make no difference.
func TestOtherYears(t *testing.T) {
	fewer := 0
	eachWorld(func(seed uint64, r world) {
		l, g := r.someCrops(), r.someGlut()
		counts := slices.DeleteFunc(slices.Clone(l), func(c api.Crop) bool { return c.Year >= g.Year || c.Year < g.Year-g.Years })
		events, demand, total := r.someEvents(l, g), r.someDemand(l, g), r.upTo(1<<20)
		sameResults(t, l, counts, g, events, demand, total)
		if len(counts) < len(l) {
			fewer++
		}
		if t.Failed() {
			t.Fatal(seed)
		}
	})
	if fewer < 150 {
		t.Error("too few", fewer)
	}
}

// sameResults checks that all functions give the same with other crops.
func sameResults(t *testing.T, l, other []api.Crop, g api.Glut, events []api.QuotaEvent, demand, total int) {
	t.Helper()
	q, e := quota.Quotas(l, g)
	expectQuotas(t, "same", other, g, q, e)
	n, e := quota.Percent(l, g, demand)
	expectPercent(t, "same", other, g, demand, n, e)
	a, index, e := quota.Play(l, g, events)
	expectPlay(t, "same", other, g, events, a, index, e)
	s, e := quota.Shares(l, g, total)
	expectShares(t, "same", other, g, total, s, e)
}

// P12.6, P11: the order of crops makes no difference.
func TestOrderDoesNotMatter(t *testing.T) {
	eachWorld(func(seed uint64, r world) {
		l, g := r.someCrops(), r.someGlut()
		events, demand, total := r.someEvents(l, g), r.someDemand(l, g), r.upTo(1<<20)
		other := slices.Clone(l)
		for range 3 {
			r.Shuffle(len(other), func(i, j int) { other[i], other[j] = other[j], other[i] })
			sameResults(t, l, other, g, events, demand, total)
		}
		if t.Failed() {
			t.Fatal(seed)
		}
	})
}

// P11: loads of different growers can come in any order, if nobody leases.
func TestOrderOfLoads(t *testing.T) {
	eachWorld(func(seed uint64, r world) {
		l, g := r.someCrops(), r.someGlut()
		events := slices.DeleteFunc(r.someEvents(l, g), func(v api.QuotaEvent) bool { return v.Kind == api.Lease })
		a, n, e := quota.Play(l, g, events)
		r.Shuffle(len(events), func(i, j int) { events[i], events[j] = events[j], events[i] })
		expectPlay(t, "other order", l, g, events, a, n, e)
		if t.Failed() {
			t.Fatal(seed)
		}
	})
}

// P10: who parts a load uses no more and has no less excess.
func TestSplittingLoadsGainsNothing(t *testing.T) {
	parted := 0
	eachWorld(func(seed uint64, r world) {
		l, g := r.someCrops(), r.someGlut()
		events := r.someEvents(l, g)
		a, n, e := quota.Play(l, g, events)
		if e != api.OK || n == 0 || n == api.MaxQuotaEvents {
			return
		}
		i := r.IntN(n)
		if events[i].Kind != api.Bring || events[i].Amount < 2 {
			return
		}
		other, part := slices.Clone(events), events[i]
		part.Amount = r.between(1, events[i].Amount-1)
		other[i].Amount -= part.Amount
		expectPlay(t, "parted", l, g, slices.Insert(other, i, part), a, n+1, api.OK)
		parted++
		if t.Failed() {
			t.Fatal(seed)
		}
	})
	if parted < 50 {
		t.Error("too few", parted)
	}
}

// P12.5, R4: arguments are only read.
func TestArgumentsAreOnlyRead(t *testing.T) {
	eachWorld(func(seed uint64, r world) {
		l, g := r.someCrops(), r.someGlut()
		events := r.someEvents(l, g)
		keptCrops, keptEvents := slices.Clone(l), slices.Clone(events)
		callAll(t, l, g, r.upTo(1<<20), events)
		if !slices.Equal(l, keptCrops) || !slices.Equal(events, keptEvents) {
			t.Fatal(seed, l, keptCrops, events, keptEvents)
		}
	})
}

// P12.5, R4: results are new: one that is changed changes no other one.
func TestResultsAreNew(t *testing.T) {
	l, g, events := exampleCrops(), exampleGlut(), exampleEvents()
	q, _ := quota.Quotas(l, g)
	a, _, _ := quota.Play(l, g, events)
	s, _ := quota.Shares(l, g, 100)
	keptQuotas, keptAccounts, keptShares := slices.Clone(q), slices.Clone(a), slices.Clone(s)
	clear(q)
	clear(a)
	clear(s)
	expectQuotas(t, "again", l, g, keptQuotas, api.OK)
	expectPlay(t, "again", l, g, events, keptAccounts, 4, api.OK)
	expectShares(t, "again", l, g, 100, keptShares, api.OK)
	q, _ = quota.Quotas(l, g)
	a, _, _ = quota.Play(l, g, events)
	s, _ = quota.Shares(l, g, 100)
	clear(l)
	clear(events)
	if !slices.Equal(q, keptQuotas) || !slices.Equal(a, keptAccounts) || !slices.Equal(s, keptShares) {
		t.Error("shared with an argument", q, a, s)
	}
}

// P11: the same call gives the same, whatever was called ahead of it.
func TestSameAgain(t *testing.T) {
	eachWorld(func(seed uint64, r world) {
		l, g := r.someCrops(), r.someGlut()
		events, demand, total := r.someEvents(l, g), r.someDemand(l, g), r.upTo(1<<20)
		q, e1 := quota.Quotas(l, g)
		n, e2 := quota.Percent(l, g, demand)
		a, index, e3 := quota.Play(l, g, events)
		s, e4 := quota.Shares(l, g, total)
		other := r.someGlut()
		callAll(t, r.someCrops(), other, total, events)
		expectQuotas(t, "again", l, g, q, e1)
		expectPercent(t, "again", l, g, demand, n, e2)
		expectPlay(t, "again", l, g, events, a, index, e3)
		expectShares(t, "again", l, g, total, s, e4)
		if t.Failed() {
			t.Fatal(seed)
		}
	})
}
