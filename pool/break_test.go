package pool_test

import (
	"slices"
	"testing"

	"fenberry/api"
	"fenberry/pool"
)

// P11.4: the chapter's example.
func TestBreakExample(t *testing.T) {
	terms, l := exampleTerms(), exampleDeliveries()
	expectBreak(t, "example", terms, l, 8, 50000, 120000, api.OK)
	expectBreak(t, "a cent more", terms, l, 8, 50001, 120003, api.OK)
	expectBreak(t, "a cent less", terms, l, 8, 49999, 119998, api.OK)
	expectBreak(t, "nothing", terms, l, 8, 0, 0, api.OK)
	expectBreak(t, "a cent", terms, l, 8, 1, 3, api.OK)
	expectBreak(t, "by all of the grower's deliveries", terms, l, 3, 7, 12, api.OK)
	expectBreak(t, "all of it", terms, l[:1], 3, 12345, 12345, api.OK)
}

// P11.4: the greatest revenue is one, too; beyond it there is none.
func TestBreakAtLimits(t *testing.T) {
	terms := perGram(0, 100000)
	half := []api.Delivery{cents(1, 1), cents(2, 1)}
	expectBreak(t, "all of it", terms, half[:1], 1, 1<<30, 1<<30, api.OK)
	expectBreak(t, "half", terms, half, 1, 1<<29, 1<<30, api.OK)
	expectBreak(t, "half less a cent", terms, half, 1, 1<<29-1, 1<<30-2, api.OK)
	expectBreak(t, "half and a cent", terms, half, 1, 1<<29+1, 0, api.ErrShort)
	expectBreak(t, "half and a cent", terms, half, 2, 1<<30, 0, api.ErrShort)
	most := api.Terms{Lines: []api.Price{{PerGram: 1 << 17, PerColour: 1 << 9}}}
	all := slices.Repeat([]api.Delivery{brings(1023, 1<<27, 255)}, 128)
	expectBreak(t, "limits", most, all, 1023, 1<<30, 1<<30, api.OK)
	all[127].Grower = 1022
	expectBreak(t, "a delivery of 128", most, all, 1022, 1<<23, 1<<30, api.OK)
	expectBreak(t, "a delivery of 128", most, all, 1022, 1<<23-1, 1<<30-128, api.OK)
	expectBreak(t, "a delivery of 128", most, all, 1022, 1<<23+1, 0, api.ErrShort)
	all[127] = api.Delivery{Grower: 1022, Good: 8}
	expectBreak(t, "a cent of all", most, all, 1022, 1, 0, api.ErrShort)
	few := []api.Delivery{cents(1, 1), cents(2, 1<<23), cents(2, 1<<23), cents(2, 1<<23)}
	expectBreak(t, "a cent of many", terms, few, 1, 42, 42*(3<<23+1), api.OK)
	expectBreak(t, "a cent of many", terms, few, 1, 43, 0, api.ErrShort)
}

// P11.4: a grower whose worth is not above 0 gets nothing of any revenue.
func TestBreakOfNothing(t *testing.T) {
	terms := exampleTerms()
	for _, l := range [][]api.Delivery{{{Grower: 5}}, {{Grower: 5, Good: 33}, {Grower: 5, Good: 33}}, append(exampleDeliveries(), api.Delivery{Grower: 5, Good: 1})} {
		expectBreak(t, "nothing", terms, l, 5, 0, 0, api.OK)
		expectBreak(t, "nothing", terms, l, 5, 1, 0, api.ErrShort)
		expectBreak(t, "nothing", terms, l, 5, 1<<30, 0, api.ErrShort)
	}
}

// P11.4: ErrNone comes ahead of ErrRange, and ErrRange ahead of ErrShort.
func TestBreakErrors(t *testing.T) {
	terms, l := exampleTerms(), exampleDeliveries()
	for _, n := range strangeNumbers() {
		if n != 3 && n != 8 {
			for _, wanted := range []int{0, 1, 1 << 30, -1, 1<<30 + 1} {
				expectBreak(t, "no delivery", terms, l, n, wanted, 0, api.ErrNone)
				expectBreak(t, "no deliveries", terms, nil, n, wanted, 0, api.ErrNone)
			}
		}
		if n < 0 || n > 1<<30 {
			expectBreak(t, "range", terms, l, 8, n, 0, api.ErrRange)
			expectBreak(t, "range", terms, []api.Delivery{{Grower: 8}}, 8, n, 0, api.ErrRange)
		}
	}
}

// P11.4: as by trying all revenues.
func TestBreakIsJudge(t *testing.T) {
	found, short := 0, 0
	eachSmall(func(seed uint64, r world) {
		terms, l := r.someTerms(), r.someDeliveries()
		for grower := range r.growers {
			p, _ := judgeSettle(terms, l, 1<<30)
			most, has := shareOf(p, grower)
			wanted := r.between(0, 40)
			switch {
			case !has:
				expectBreak(t, "none", terms, l, grower, wanted, 0, api.ErrNone)
			case most < wanted:
				expectBreak(t, "short", terms, l, grower, wanted, 0, api.ErrShort)
				short++
			default:
				revenue := 0
				for got := 0; got < wanted && revenue < 1<<16; {
					revenue++
					p, _, _ := pool.Settle(terms, l, revenue)
					got, _ = shareOf(p, grower)
				}
				expectBreak(t, "least", terms, l, grower, wanted, revenue, api.OK)
				found++
			}
		}
		if t.Failed() {
			t.Fatal(seed)
		}
	})
	if found < 200 || short < 50 {
		t.Error("too few", found, short)
	}
}

// P11.4: the revenue is enough, and a cent less is not; or the most is not.
func TestBreakIsLeast(t *testing.T) {
	found, short := 0, 0
	eachWorld(func(seed uint64, r world) {
		terms, l := r.someTerms(), r.someDeliveries()
		if len(l) == 0 {
			return
		}
		grower := l[r.IntN(len(l))].Grower
		share := func(revenue int) int {
			p, _, _ := pool.Settle(terms, l, revenue)
			n, _ := shareOf(p, grower)
			return n
		}
		most := share(1 << 30)
		for _, wanted := range []int{r.upTo(1 << 30), r.upTo(most), most, min(1<<30, most+1)} {
			n, e := pool.Break(terms, l, grower, wanted)
			switch {
			case e == api.OK && share(n) >= wanted && (n == 0 || share(n-1) < wanted):
				found++
			case e == api.ErrShort && n == 0 && most < wanted:
				short++
			default:
				t.Fatal(seed, terms, l, grower, wanted, n, e)
			}
		}
	})
	if min(found, short) < 200 {
		t.Error("too few", found, short)
	}
}
