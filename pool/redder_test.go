package pool_test

import (
	"testing"

	"fenberry/api"
	"fenberry/pool"
)

// P11.5: the chapter's examples.
func TestRedderExamples(t *testing.T) {
	terms, first := exampleTerms(), exampleDeliveries()[0]
	expectRedder(t, "example", terms, first, 60000, 60000000, api.OK)
	expectRedder(t, "example", terms, first, 90001, 0, api.ErrShort)
	expectRedder(t, "the most", terms, first, 90000, 120000000, api.OK)
	expectRedder(t, "from 0 on", terms, first, 30000, 0, api.OK)
	expectRedder(t, "from 0 on", terms, first, 0, 0, api.OK)
	expectRedder(t, "less than it has", terms, first, 30001, 2000, api.OK)
}

// P11.5: the colour that the delivery has makes no difference, nor does the grower.
func TestRedderOfAnyColour(t *testing.T) {
	for _, colour := range []int{0, 1, 119, 120, 121, 255} {
		expectRedder(t, "any colour", exampleTerms(), brings(7, 1000000, colour), 60000, 60000000, api.OK)
		expectRedder(t, "any colour", exampleTerms(), brings(7, 1000000, colour), 90001, 0, api.ErrShort)
	}
}

// P11.5: the colour has to be enough by each line, and is at most 255 for each gram.
func TestRedderLines(t *testing.T) {
	lines := api.Terms{Lines: []api.Price{{PerGram: 50000, PerColour: 10}, {PerColour: 100}, {PerGram: 80000, PerColour: 1}}}
	// 10 grams are worth a cent, if 500000 comes from the colour times 10, 1000000 from that times 100, and 200000 from that times 1.
	expectRedder(t, "short", lines, api.Delivery{Good: 10}, 1, 0, api.ErrShort)
	// 100 grams have up to 25500 of colour.
	expectRedder(t, "the second line", lines, api.Delivery{Good: 100}, 1, 10000, api.OK)
	expectRedder(t, "the second line", lines, api.Delivery{Good: 100}, 2, 20000, api.OK)
	expectRedder(t, "the second line is short", lines, api.Delivery{Good: 100}, 3, 0, api.ErrShort)
	one := api.Terms{Lines: []api.Price{{PerColour: 3}}}
	for wanted, want := range map[int]int{0: 0, 1: 333334, 2: 666667, 3: 1000000, 4: 1333334} {
		expectRedder(t, "rounded up", one, api.Delivery{Good: 10000}, wanted, want, api.OK)
	}
	flat := perGram(0, 100000)
	expectRedder(t, "by weight", flat, cents(0, 7), 7, 0, api.OK)
	expectRedder(t, "by weight", flat, cents(0, 7), 8, 0, api.ErrShort)
}

// P11.5, R5: all of the colour can be needed, and no more; the greatest numbers are exact.
func TestRedderAtLimits(t *testing.T) {
	hundred := api.Terms{Lines: []api.Price{{PerColour: 100}}}
	expectRedder(t, "all", hundred, api.Delivery{Good: 2000}, 51, 510000, api.OK)
	expectRedder(t, "more than all", hundred, api.Delivery{Good: 2000}, 52, 0, api.ErrShort)
	expectRedder(t, "no berries", hundred, api.Delivery{}, 0, 0, api.OK)
	expectRedder(t, "no berries", hundred, api.Delivery{}, 1, 0, api.ErrShort)
	most := api.Terms{Lines: []api.Price{{PerGram: 1 << 17, PerColour: 1 << 9}}}
	// 35115652000000 less 2^44, divided by 2^9, rounded up; all of the colour makes 35115652612096.
	expectRedder(t, "limits", most, api.Delivery{Good: 1 << 27}, 35115652, 34225519445, api.OK)
	expectRedder(t, "limits", most, api.Delivery{Good: 1 << 27}, 35115653, 0, api.ErrShort)
	expectRedder(t, "limits", most, api.Delivery{Good: 1 << 27}, 1<<30, 0, api.ErrShort)
}

// P11.5: ErrRange comes ahead of ErrShort.
func TestRedderRange(t *testing.T) {
	for _, n := range append(strangeNumbers(), 1<<30-1) {
		want := api.ErrShort
		if n < 0 || n > 1<<30 {
			want = api.ErrRange
		}
		if n != 0 {
			expectRedder(t, "range", exampleTerms(), api.Delivery{}, n, 0, want)
		}
	}
}

// P11.5: as by trying all colours.
func TestRedderIsJudge(t *testing.T) {
	found, short := 0, 0
	eachSmall(func(seed uint64, r world) {
		terms, d := r.someTerms(), r.someDelivery()
		wanted := r.between(0, 9)
		want, wantError := 0, api.ErrShort
		for colour := range d.Good*255 + 1 {
			worth, _, _ := pool.Worth(terms, api.Delivery{Good: d.Good, Colour: colour})
			if worth >= wanted {
				want, wantError = colour, api.OK
				break
			}
		}
		expectRedder(t, "least", terms, d, wanted, want, wantError)
		if want > 0 {
			found++
		}
		if wantError != api.OK && d.Good > 0 {
			short++
		}
		if t.Failed() {
			t.Fatal(seed)
		}
	})
	if min(found, short) < 50 {
		t.Error("too few", found, short)
	}
}

// P11.5: the colour is enough, and a little less is not; or the most is not.
func TestRedderIsLeast(t *testing.T) {
	found, short := 0, 0
	eachWorld(func(seed uint64, r world) {
		terms, d := r.someTerms(), r.someDelivery()
		worth := func(colour int) int {
			n, _ := judgeWorth(terms, api.Delivery{Good: d.Good, Colour: colour})
			return n
		}
		least, most := worth(0), worth(d.Good*255)
		for _, wanted := range []int{r.upTo(1 << 30), r.between(least, most), most, most + 1} {
			n, e := pool.Redder(terms, d, wanted)
			switch {
			case e == api.OK && worth(n) >= wanted && (n == 0 || worth(n-1) < wanted):
				if n > 0 {
					found++
				}
			case e == api.ErrShort && n == 0 && most < wanted:
				short++
			default:
				t.Fatal(seed, terms, d, wanted, n, e)
			}
		}
	})
	if min(found, short) < 200 {
		t.Error("too few", found, short)
	}
}
