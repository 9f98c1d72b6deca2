package pool_test

import (
	"slices"
	"testing"

	"fenberry/api"
)

// P11.1: the chapter's examples, and DOC.md's.
func TestWorthExamples(t *testing.T) {
	terms, l := exampleTerms(), exampleDeliveries()
	expectWorth(t, "the first", terms, l[0], 55000, 0, api.OK)
	expectWorth(t, "the second", terms, l[1], 45000, 1, api.OK)
	expectWorth(t, "the third", terms, l[2], 8000, 0, api.OK)
	for colour, want := range map[int]int{0: 30000, 1: 30500, 119: 89500, 120: 90000} {
		expectWorth(t, "by the line 0", terms, brings(3, 1000000, colour), want, 0, api.OK)
	}
	for _, colour := range []int{121, 150, 255} {
		expectWorth(t, "makes no difference", terms, brings(3, 1000000, colour), 90000, 1, api.OK)
	}
}

// P11.1: what is below a cent is rounded down, only in the end.
func TestWorthRounds(t *testing.T) {
	for good, want := range map[int]int{0: 0, 9: 0, 10: 1, 11: 1, 19: 1, 20: 2, 999: 99} {
		expectWorth(t, "by weight", perGram(0, 100000), api.Delivery{Good: good}, want, 0, api.OK)
	}
	one := api.Terms{Lines: []api.Price{{PerGram: 3, PerColour: 500}}}
	for colour, want := range map[int]int{1999: 0, 2000: 1, 3999: 1, 4000: 2} {
		expectWorth(t, "by colour", one, api.Delivery{Good: 100, Colour: colour}, want, 0, api.OK)
	}
	// 999996 for the weight and 4 for the colour are a cent together.
	both := api.Terms{Lines: []api.Price{{PerGram: 83333, PerColour: 1}}}
	expectWorth(t, "together", both, api.Delivery{Good: 12, Colour: 4}, 1, 0, api.OK)
	expectWorth(t, "together", both, api.Delivery{Good: 12, Colour: 3}, 0, 0, api.OK)
}

// P11.1: of lines that give the same the first one decides; they are compared ahead of rounding.
func TestWorthLines(t *testing.T) {
	three := api.Delivery{Good: 30}
	expectWorth(t, "the same", perGram(0, 50000, 50000, 50000), three, 1, 0, api.OK)
	expectWorth(t, "the least twice", perGram(0, 90000, 50000, 50000), three, 1, 1, api.OK)
	expectWorth(t, "the last", perGram(0, 90000, 50000, 40000), three, 1, 2, api.OK)
	expectWorth(t, "the first", perGram(0, 40000, 50000, 90000), three, 1, 0, api.OK)
	expectWorth(t, "less by a millionth", perGram(0, 50001, 50000), three, 1, 1, api.OK)
	expectWorth(t, "rounded to the same", perGram(0, 50000, 50001), three, 1, 0, api.OK)
	expectWorth(t, "less by a millionth of the eighth line", perGram(0, slices.Concat(slices.Repeat([]int{50001}, 7), []int{50000})...), three, 1, 7, api.OK)
	expectWorth(t, "nothing", perGram(0, 5, 0, 7), api.Delivery{}, 0, 0, api.OK)
	expectWorth(t, "worth nothing", perGram(0, 5, 0, 7), three, 0, 1, api.OK)
	colour := api.Terms{Lines: []api.Price{{PerGram: 100}, {PerColour: 2}}}
	expectWorth(t, "by weight", colour, brings(0, 100000, 50), 10, 0, api.OK)
	expectWorth(t, "by colour", colour, brings(0, 100000, 49), 9, 1, api.OK)
}

// P11.1, R5: the greatest numbers are exact.
func TestWorthAtLimits(t *testing.T) {
	terms := api.Terms{Lines: slices.Repeat([]api.Price{{PerGram: 1 << 17, PerColour: 1 << 9}}, 8), Advance: 1000}
	all := brings(1023, 1<<27, 255)
	// 2^44 + 255 2^36 = 35115652612096
	expectWorth(t, "limits", terms, all, 35115652, 0, api.OK)
	terms.Lines[7].PerColour--
	expectWorth(t, "the eighth line", terms, all, 35081427, 7, api.OK)
	expectWorth(t, "nothing of the eighth line", terms, api.Delivery{Good: 1 << 27}, 17592186, 0, api.OK)
}

// P11.1: neither the grower nor what is paid at once makes a difference.
func TestWorthOfAnyGrower(t *testing.T) {
	eachWorld(func(seed uint64, r world) {
		terms, d := r.someTerms(), r.someDelivery()
		worth, line := judgeWorth(terms, d)
		terms.Advance, d.Grower = r.upTo(1000), r.upTo(1023)
		expectWorth(t, "other", terms, d, worth, line, api.OK)
	})
}

// P11.1: as with numbers of any size.
func TestWorthIsJudge(t *testing.T) {
	lines := map[int]int{}
	worths := 0
	eachWorld(func(seed uint64, r world) {
		for range 10 {
			terms, d := r.someTerms(), r.someDelivery()
			worth, line := judgeWorth(terms, d)
			expectWorth(t, "judge", terms, d, worth, line, api.OK)
			lines[line]++
			if worth > 0 {
				worths++
			}
		}
		if t.Failed() {
			t.Fatal(seed)
		}
	})
	if len(lines) != 8 || lines[1] < 500 || worths < 3000 {
		t.Error("too few", lines, worths)
	}
}
