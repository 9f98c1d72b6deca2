package pool_test

import (
	"slices"
	"testing"

	"fenberry/api"
)

// P11.3: the chapter's example, and DOC.md's.
func TestSettleExample(t *testing.T) {
	terms, l := exampleTerms(), exampleDeliveries()
	p := []api.Payment{
		{Grower: 3, Worth: 63000, Advance: 25200, Share: 58333, Rest: 33133},
		{Grower: 8, Worth: 45000, Advance: 18000, Share: 41666, Rest: 23666},
	}
	expectSettle(t, "example", terms, l, 100000, p, 1, api.OK)
	p[0].Share, p[0].Rest, p[1].Share, p[1].Rest = 63000, 37800, 45000, 27000
	expectSettle(t, "what all is worth", terms, l, 108000, p, 0, api.OK)
	p[0].Share, p[0].Rest, p[1].Share, p[1].Rest = 0, -25200, 0, -18000
	expectSettle(t, "nothing", terms, l, 0, p, 0, api.OK)
	expectSettle(t, "a cent", terms, l, 1, p, 1, api.OK)
	first := []api.Payment{{Grower: 3, Worth: 55000, Advance: 22000, Share: 12345, Rest: -9655}}
	expectSettle(t, "one grower", terms, l[:1], 12345, first, 0, api.OK)
}

// P11.3: growers rise, whatever the order of deliveries is; each has one payment.
func TestSettleGrowersRise(t *testing.T) {
	terms := perGram(0, 100000)
	l := []api.Delivery{cents(1023, 1), cents(7, 2), cents(0, 3), cents(7, 4), cents(12, 0), cents(1023, 5), cents(11, 6)}
	want := []api.Payment{{Grower: 0, Worth: 3, Share: 3, Rest: 3}, {Grower: 7, Worth: 6, Share: 6, Rest: 6}, {Grower: 11, Worth: 6, Share: 6, Rest: 6}, {Grower: 12}, {Grower: 1023, Worth: 6, Share: 6, Rest: 6}}
	expectSettle(t, "rising", terms, l, 21, want, 0, api.OK)
}

// P11.3: shares are rounded down by grower, not by delivery; what is left is kept.
func TestSettleRounds(t *testing.T) {
	terms := perGram(1000, 100000)
	l := []api.Delivery{cents(1, 1), cents(1, 1), cents(2, 1), cents(3, 0)}
	for revenue, want := range map[int][3]int{0: {0, 0, 0}, 1: {0, 0, 1}, 2: {1, 0, 1}, 3: {2, 1, 0}, 4: {2, 1, 1}, 5: {3, 1, 1}, 6: {4, 2, 0}} {
		p := []api.Payment{{Grower: 1, Worth: 2, Advance: 2, Share: want[0], Rest: want[0] - 2}, {Grower: 2, Worth: 1, Advance: 1, Share: want[1], Rest: want[1] - 1}, {Grower: 3}}
		expectSettle(t, "thirds", terms, l, revenue, p, want[2], api.OK)
	}
	// The worth is rounded by delivery.
	grams := []api.Delivery{{Grower: 1, Good: 19}, {Grower: 1, Good: 19}, {Grower: 2, Good: 38}}
	p := []api.Payment{{Grower: 1, Worth: 2, Share: 40, Rest: 40}, {Grower: 2, Worth: 3, Share: 60, Rest: 60}}
	expectSettle(t, "by delivery", perGram(0, 100000), grams, 100, p, 0, api.OK)
}

// P11.3: if nobody's worth is above 0, the pool keeps all.
func TestSettleOfNothing(t *testing.T) {
	terms := exampleTerms()
	for _, revenue := range []int{0, 1, 77, 1 << 30} {
		expectSettle(t, "no deliveries", terms, nil, revenue, nil, revenue, api.OK)
		expectSettle(t, "no deliveries", terms, []api.Delivery{}, revenue, nil, revenue, api.OK)
		expectSettle(t, "worth nothing", terms, []api.Delivery{{Grower: 9}, {Grower: 2, Good: 33}, {Grower: 9, Good: 1}}, revenue, []api.Payment{{Grower: 2}, {Grower: 9}}, revenue, api.OK)
		expectSettle(t, "free", perGram(1000, 90000, 0), exampleDeliveries(), revenue, []api.Payment{{Grower: 3}, {Grower: 8}}, revenue, api.OK)
	}
}

// P11.3, R5: the greatest numbers are exact.
func TestSettleAtLimits(t *testing.T) {
	terms := api.Terms{Lines: []api.Price{{PerGram: 1 << 17, PerColour: 1 << 9}}, Advance: 1000}
	all := slices.Repeat([]api.Delivery{brings(1023, 1<<27, 255)}, 128)
	const worth = 35115652
	expectSettle(t, "one grower", terms, all, 1<<30, []api.Payment{{Grower: 1023, Worth: 128 * worth, Advance: 128 * worth, Share: 1 << 30, Rest: 1<<30 - 128*worth}}, 0, api.OK)
	all[5].Grower = 0
	p := []api.Payment{{Grower: 0, Worth: worth, Advance: worth, Share: 1 << 23, Rest: 1<<23 - worth}, {Grower: 1023, Worth: 127 * worth, Advance: 127 * worth, Share: 127 << 23, Rest: 127<<23 - 127*worth}}
	expectSettle(t, "two growers", terms, all, 1<<30, p, 0, api.OK)
	var each []api.Payment
	for i := range all {
		all[i].Grower = i * 8
		each = append(each, api.Payment{Grower: i * 8, Worth: worth, Advance: worth, Share: 1<<23 - 1, Rest: 1<<23 - 1 - worth})
	}
	expectSettle(t, "128 growers", terms, all, 1<<30-1, each, 127, api.OK)
}

// P11.3, R5: a share that is less than a whole cent by the least part that there can be is rounded down, too.
func TestSettleIsExact(t *testing.T) {
	const most = 13421772 // cents of a delivery of 2^27 grams
	l := append(slices.Repeat([]api.Delivery{cents(1, most)}, 127), cents(2, 55))
	// 960754874 times 127 most is 960754843 times all of it, less 1.
	p := []api.Payment{{Grower: 1, Worth: 127 * most, Share: 960754842, Rest: 960754842}, {Grower: 2, Worth: 55, Share: 31, Rest: 31}}
	expectSettle(t, "exact", perGram(0, 100000), l, 960754874, p, 1, api.OK)
	expectBreak(t, "exact", perGram(0, 100000), l, 1, 960754843, 960754875, api.OK)
}

// P11.3: revenues that there cannot be.
func TestSettleRange(t *testing.T) {
	for _, n := range append(strangeNumbers(), 1<<30-1) {
		if n < 0 || n > 1<<30 {
			expectSettle(t, "range", exampleTerms(), exampleDeliveries(), n, nil, 0, api.ErrRange)
			expectSettle(t, "range", exampleTerms(), nil, n, nil, 0, api.ErrRange)
		} else {
			p, kept := judgeSettle(exampleTerms(), exampleDeliveries(), n)
			expectSettle(t, "range", exampleTerms(), exampleDeliveries(), n, p, kept, api.OK)
		}
	}
}

// P11.3: as by asking all growers that there can be.
func TestSettleIsJudge(t *testing.T) {
	paidBack, kepts := 0, 0
	eachWorld(func(seed uint64, r world) {
		terms, l := r.someTerms(), r.someDeliveries()
		revenue := r.someRevenue(terms, l)
		p, kept := judgeSettle(terms, l, revenue)
		expectSettle(t, "judge", terms, l, revenue, p, kept, api.OK)
		if slices.ContainsFunc(p, func(x api.Payment) bool { return x.Rest < 0 && x.Share > 0 }) {
			paidBack++
		}
		if kept > 1 && kept < revenue {
			kepts++
		}
		if t.Failed() {
			t.Fatal(seed)
		}
	})
	if min(paidBack, kepts) < 50 {
		t.Error("too few", paidBack, kepts)
	}
}
