package pool_test

import (
	"slices"
	"testing"

	"fenberry/api"
)

// P11.2: the chapter's example.
func TestAdvancesExample(t *testing.T) {
	terms, l := exampleTerms(), exampleDeliveries()
	expectAdvances(t, "example", terms, l, 43200, api.OK)
	expectAdvances(t, "the first", terms, l[:1], 22000, api.OK)
	expectAdvances(t, "none", terms, nil, 0, api.OK)
	expectAdvances(t, "none", terms, []api.Delivery{}, 0, api.OK)
	for advance, want := range map[int]int{0: 0, 1: 108, 500: 54000, 999: 107892, 1000: 108000} {
		terms.Advance = advance
		expectAdvances(t, "parts", terms, l, want, api.OK)
	}
}

// P11.2: each delivery is rounded by itself, first its worth and then its advance.
func TestAdvancesRound(t *testing.T) {
	half := perGram(500, 100000)
	for n, want := range map[int]int{0: 0, 1: 0, 2: 1, 3: 1, 4: 2, 5: 2} {
		expectAdvances(t, "half", half, []api.Delivery{cents(0, n)}, want, api.OK)
	}
	odd := []api.Delivery{cents(4, 1), cents(4, 1), cents(4, 3), cents(5, 1)}
	expectAdvances(t, "odd cents", half, odd, 1, api.OK)
	// 19 grams are worth 1 cent, not 1.9 cents of which one half would be 0.95 and of two such ones 1.9.
	expectAdvances(t, "odd grams", perGram(1000, 100000), []api.Delivery{{Good: 19}, {Good: 19}}, 2, api.OK)
	expectAdvances(t, "odd grams and parts", perGram(999, 100000), []api.Delivery{{Good: 19}, {Good: 19}, {Good: 29}}, 1, api.OK)
}

// P11.2, R5: the greatest numbers are exact.
func TestAdvancesAtLimits(t *testing.T) {
	terms := api.Terms{Lines: []api.Price{{PerGram: 1 << 17, PerColour: 1 << 9}}, Advance: 1000}
	all := slices.Repeat([]api.Delivery{brings(1023, 1<<27, 255)}, 128)
	expectAdvances(t, "limits", terms, all, 4494803456, api.OK)
	terms.Advance = 999
	expectAdvances(t, "limits", terms, all, 128*35080536, api.OK)
}

// P11.2: as with numbers of any size.
func TestAdvancesAreJudge(t *testing.T) {
	several := 0
	eachWorld(func(seed uint64, r world) {
		terms, l := r.someTerms(), r.someDeliveries()
		want, together := 0, 0
		for _, d := range l {
			want += judgeAdvance(terms, d)
			worth, _ := judgeWorth(terms, d)
			together += worth
		}
		expectAdvances(t, "judge", terms, l, want, api.OK)
		if want < part(together, terms.Advance, 1000) {
			several++
		}
		if t.Failed() {
			t.Fatal(seed)
		}
	})
	if several < 200 {
		t.Error("too few", several)
	}
}
