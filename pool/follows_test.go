package pool_test

import (
	"slices"
	"testing"

	"fenberry/api"
	"fenberry/pool"
)

// worthOf returns what pool.Worth says of valid terms and a valid delivery.
func worthOf(t api.Terms, d api.Delivery) int {
	n, _, _ := pool.Worth(t, d)
	return n
}

// advanceOf returns what is paid at once for one delivery.
func advanceOf(t api.Terms, d api.Delivery) int {
	n, _ := pool.Advances(t, []api.Delivery{d})
	return n
}

// P11.7, P10: no delivery that is split, however good and bad berries are parted, is worth more in all its parts together; nor is more paid at once.
func TestSplittingGainsNothing(t *testing.T) {
	less, paidLess := 0, 0
	eachWorld(func(seed uint64, r world) {
		terms, d := r.someTerms(), r.someDelivery()
		whole, paid := worthOf(terms, d), advanceOf(terms, d)
		parts := []api.Delivery{d}
		for range r.between(1, 6) {
			i := r.IntN(len(parts))
			a, b := r.split(parts[i])
			parts[i] = a
			parts = append(parts, b)
			worth, advance := 0, 0
			for _, x := range parts {
				worth += worthOf(terms, x)
				advance += advanceOf(terms, x)
			}
			if worth > whole || advance > paid {
				t.Fatal(seed, terms, d, parts, worth, whole, advance, paid)
			}
			if worth < whole {
				less++
			}
			if advance < paid {
				paidLess++
			}
		}
	})
	if min(less, paidLess) < 500 {
		t.Error("too few", less, paidLess)
	}
}

// P11.7: good and bad berries that are kept apart are worth less, if the lines cross between their colours.
func TestPartingGoodAndBad(t *testing.T) {
	terms := exampleTerms()
	together := brings(3, 1000000, 110)
	expectWorth(t, "together", terms, together, 85000, 0, api.OK)
	expectWorth(t, "the good ones", terms, brings(3, 500000, 200), 45000, 1, api.OK)
	expectWorth(t, "the bad ones", terms, brings(3, 500000, 20), 20000, 0, api.OK)
}

// P11.7: who splits a delivery has no greater worth, no greater share and no greater advance than before, and nobody else has a lesser share; the parts may be anywhere in the list.
func TestSplittingAmongOthers(t *testing.T) {
	less := 0
	eachWorld(func(seed uint64, r world) {
		terms, l := r.someTerms(), r.someDeliveries()
		if len(l) == 0 {
			return
		}
		revenue := r.someRevenue(terms, l)
		i := r.IntN(len(l))
		grower := l[i].Grower
		a, b := r.split(l[i])
		other := slices.Clone(l)
		other[i] = a
		other = slices.Insert(other, r.IntN(len(l)+1), b)
		if len(other) > api.MaxDeliveries {
			return
		}
		p, _, _ := pool.Settle(terms, l, revenue)
		q, _, _ := pool.Settle(terms, other, revenue)
		for k, x := range p {
			y := q[k]
			if x.Grower != y.Grower || x.Grower == grower && (y.Worth > x.Worth || y.Share > x.Share || y.Advance > x.Advance) || x.Grower != grower && (y.Worth != x.Worth || y.Share < x.Share) {
				t.Fatal(seed, terms, l, other, x, y)
			}
			if y.Share < x.Share {
				less++
			}
		}
	})
	if less < 100 {
		t.Error("too few", less)
	}
}

// P11.7, P10: what the pool earns is paid out, or kept, to the cent; it keeps fewer cents than there are growers whose worth is above 0.
func TestAllOfTheRevenue(t *testing.T) {
	kepts := 0
	eachWorld(func(seed uint64, r world) {
		terms, l := r.someTerms(), r.someDeliveries()
		revenue := r.someRevenue(terms, l)
		p, kept, e := pool.Settle(terms, l, revenue)
		shares, advances, above := 0, 0, 0
		for _, x := range p {
			shares += x.Share
			advances += x.Advance
			if x.Worth > 0 {
				above++
			}
			if min(x.Share, x.Worth, x.Advance, x.Worth-x.Advance) < 0 || x.Rest != x.Share-x.Advance {
				t.Fatal(seed, terms, l, revenue, x)
			}
		}
		if e != api.OK || shares+kept != revenue || kept < 0 || above > 0 && kept >= above || above == 0 && kept != revenue {
			t.Fatal(seed, terms, l, revenue, p, kept, e)
		}
		expectAdvances(t, "of all growers", terms, l, advances, api.OK)
		if kept > 0 && above > 0 {
			kepts++
		}
	})
	if kepts < 200 {
		t.Error("too few", kepts)
	}
}

// P11.7: more berries of the same colour, or redder ones, are worth no less.
func TestMoreIsWorthNoLess(t *testing.T) {
	more, redder := 0, 0
	eachWorld(func(seed uint64, r world) {
		terms, d := r.someTerms(), r.someDelivery()
		worth := worthOf(terms, d)
		// A part that is a hundredth, taken so many times, has the same colour each time.
		part := api.Delivery{Good: d.Good / 100}
		part.Colour = min(d.Colour/100, part.Good*api.MaxColour)
		n := r.between(0, 100)
		small := worthOf(terms, api.Delivery{Good: n * part.Good, Colour: n * part.Colour})
		big := worthOf(terms, api.Delivery{Good: 100 * part.Good, Colour: 100 * part.Colour})
		red := worthOf(terms, api.Delivery{Good: d.Good, Colour: r.between(d.Colour, d.Good*api.MaxColour)})
		if small > big || red < worth {
			t.Fatal(seed, terms, d, n, small, big, worth, red)
		}
		if small < big {
			more++
		}
		if red > worth {
			redder++
		}
	})
	if min(more, redder) < 200 {
		t.Error("too few", more, redder)
	}
}

// P11.7, P11: the order of deliveries makes no difference.
func TestOrderDoesNotMatter(t *testing.T) {
	eachWorld(func(seed uint64, r world) {
		terms, l := r.someTerms(), r.someDeliveries()
		revenue, grower, wanted := r.someRevenue(terms, l), r.IntN(r.growers), r.IntN(1000)
		n, e1 := pool.Advances(terms, l)
		p, kept, e2 := pool.Settle(terms, l, revenue)
		least, e3 := pool.Break(terms, l, grower, wanted)
		other := slices.Clone(l)
		for range 3 {
			r.Shuffle(len(other), func(i, j int) { other[i], other[j] = other[j], other[i] })
			expectAdvances(t, "other order", terms, other, n, e1)
			expectSettle(t, "other order", terms, other, revenue, p, kept, e2)
			expectBreak(t, "other order", terms, other, grower, wanted, least, e3)
		}
		if t.Failed() {
			t.Fatal(seed)
		}
	})
}

// P11.7: with more revenue nobody gets less.
func TestMoreRevenue(t *testing.T) {
	more := 0
	eachWorld(func(seed uint64, r world) {
		terms, l := r.someTerms(), r.someDeliveries()
		revenue := r.someRevenue(terms, l)
		for _, greater := range []int{min(revenue+1, 1<<30), r.between(revenue, 1<<30), 1 << 30} {
			p, _, _ := pool.Settle(terms, l, revenue)
			q, _, _ := pool.Settle(terms, l, greater)
			for i, x := range p {
				if q[i].Share < x.Share || q[i].Rest < x.Rest || q[i].Worth != x.Worth || q[i].Advance != x.Advance {
					t.Fatal(seed, terms, l, revenue, greater, x, q[i])
				}
				if q[i].Share > x.Share {
					more++
				}
			}
		}
	})
	if more < 1000 {
		t.Error("too few", more)
	}
}

// P11.6, R4: arguments are only read.
func TestArgumentsAreOnlyRead(t *testing.T) {
	eachWorld(func(seed uint64, r world) {
		terms, l := r.someTerms(), r.someDeliveries()
		keptTerms, kept := cloneTerms(terms), slices.Clone(l)
		pool.Worth(terms, r.someDelivery())
		pool.Advances(terms, l)
		pool.Settle(terms, l, r.someRevenue(terms, l))
		pool.Break(terms, l, r.IntN(r.growers), 5)
		pool.Redder(terms, r.someDelivery(), 5)
		if !sameTerms(terms, keptTerms) || !slices.Equal(l, kept) {
			t.Fatal(seed, terms, keptTerms, l, kept)
		}
	})
}

// P11.6, R4: results are new: one that is changed changes no other one.
func TestResultsAreNew(t *testing.T) {
	terms, l := exampleTerms(), exampleDeliveries()
	first, _, _ := pool.Settle(terms, l, 100000)
	kept := slices.Clone(first)
	second, _, _ := pool.Settle(terms, l, 100000)
	clear(first)
	if !slices.Equal(second, kept) || !slices.Equal(l, exampleDeliveries()) || !sameTerms(terms, exampleTerms()) {
		t.Error("shared", second, l, terms)
	}
	clear(l)
	clear(terms.Lines)
	if !slices.Equal(second, kept) {
		t.Error("shared with the argument", second)
	}
}

// P11: the same call gives the same, whatever was called ahead of it.
func TestSameAgain(t *testing.T) {
	eachWorld(func(seed uint64, r world) {
		terms, l, d := r.someTerms(), r.someDeliveries(), r.someDelivery()
		revenue, grower, wanted := r.someRevenue(terms, l), r.IntN(r.growers), r.IntN(1000)
		worth, line, e1 := pool.Worth(terms, d)
		n, e2 := pool.Advances(terms, l)
		p, kept, e3 := pool.Settle(terms, l, revenue)
		least, e4 := pool.Break(terms, l, grower, wanted)
		colour, e5 := pool.Redder(terms, d, wanted)
		other, others := r.someTerms(), r.someDeliveries()
		pool.Worth(other, r.someDelivery())
		pool.Settle(other, others, revenue)
		pool.Break(other, others, grower, wanted)
		expectWorth(t, "again", terms, d, worth, line, e1)
		expectAdvances(t, "again", terms, l, n, e2)
		expectSettle(t, "again", terms, l, revenue, p, kept, e3)
		expectBreak(t, "again", terms, l, grower, wanted, least, e4)
		expectRedder(t, "again", terms, d, wanted, colour, e5)
		if t.Failed() {
			t.Fatal(seed)
		}
	})
}
