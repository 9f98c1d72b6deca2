package pool_test

import (
	"math"
	"math/big"
	"math/rand/v2"
	"slices"
	"testing"

	"fenberry/api"
	"fenberry/pool"
)

// exampleTerms returns the terms of the chapter's examples.
func exampleTerms() api.Terms {
	return api.Terms{Lines: []api.Price{{PerGram: 30000, PerColour: 500}, {PerGram: 90000}}, Advance: 400}
}

// exampleDeliveries returns the deliveries of the chapter's examples.
func exampleDeliveries() []api.Delivery {
	return []api.Delivery{brings(3, 1000000, 50), brings(8, 500000, 150), brings(3, 200000, 20)}
}

// brings returns a delivery of which each gram has the same colour.
func brings(grower, good, colour int) api.Delivery {
	return api.Delivery{Grower: grower, Good: good, Colour: good * colour}
}

// perGram returns terms with lines that pay by weight only.
func perGram(advance int, prices ...int) api.Terms {
	t := api.Terms{Advance: advance}
	for _, p := range prices {
		t.Lines = append(t.Lines, api.Price{PerGram: p})
	}
	return t
}

// cents returns a delivery that is worth so much by terms with 100000 for a gram.
func cents(grower, n int) api.Delivery { return api.Delivery{Grower: grower, Good: 10 * n} }

func cloneTerms(t api.Terms) api.Terms {
	t.Lines = slices.Clone(t.Lines)
	return t
}

func sameTerms(a, b api.Terms) bool { return a.Advance == b.Advance && slices.Equal(a.Lines, b.Lines) }

// strangeNumbers are beyond limits, or at them.
func strangeNumbers() []int {
	return []int{math.MinInt, math.MinInt + 1, -2, -1, 0, 1, 2, 255, 256, 512, 513, 1000, 1001, 1023, 1024, 1 << 17, 1<<17 + 1, 1 << 27, 1<<27 + 1, 255 << 27, 255<<27 + 1, 1 << 30, 1<<30 + 1, math.MaxInt / 255, math.MaxInt - 1, math.MaxInt}
}

func expectWorth(t *testing.T, name string, terms api.Terms, d api.Delivery, want, wantLine int, wantError api.Errno) {
	t.Helper()
	if n, line, e := pool.Worth(terms, d); n != want || line != wantLine || e != wantError {
		t.Error(name, terms, d, n, line, e, "instead of", want, wantLine, wantError)
	}
}

func expectAdvances(t *testing.T, name string, terms api.Terms, l []api.Delivery, want int, wantError api.Errno) {
	t.Helper()
	if n, e := pool.Advances(terms, l); n != want || e != wantError {
		t.Error(name, terms, l, n, e, "instead of", want, wantError)
	}
}

func expectSettle(t *testing.T, name string, terms api.Terms, l []api.Delivery, revenue int, want []api.Payment, wantKept int, wantError api.Errno) {
	t.Helper()
	if p, kept, e := pool.Settle(terms, l, revenue); !slices.Equal(p, want) || kept != wantKept || e != wantError {
		t.Error(name, terms, l, revenue, p, kept, e, "instead of", want, wantKept, wantError)
	}
}

func expectBreak(t *testing.T, name string, terms api.Terms, l []api.Delivery, grower, wanted, want int, wantError api.Errno) {
	t.Helper()
	if n, e := pool.Break(terms, l, grower, wanted); n != want || e != wantError {
		t.Error(name, terms, l, grower, wanted, n, e, "instead of", want, wantError)
	}
}

func expectRedder(t *testing.T, name string, terms api.Terms, d api.Delivery, wanted, want int, wantError api.Errno) {
	t.Helper()
	if n, e := pool.Redder(terms, d, wanted); n != want || e != wantError {
		t.Error(name, terms, d, wanted, n, e, "instead of", want, wantError)
	}
}

// product returns a times b, of any size.
func product(a, b int) *big.Int { return new(big.Int).Mul(big.NewInt(int64(a)), big.NewInt(int64(b))) }

// part returns all times a of b, rounded down, with numbers of any size.
func part(all, a, b int) int {
	n := product(all, a)
	return int(n.Div(n, big.NewInt(int64(b))).Int64())
}

// judgeWorth goes through the lines with numbers of any size, as the chapter says it.
func judgeWorth(t api.Terms, d api.Delivery) (worth, line int) {
	var least *big.Int
	for i, p := range t.Lines {
		n := product(d.Good, p.PerGram)
		n.Add(n, product(d.Colour, p.PerColour))
		if least == nil || n.Cmp(least) < 0 {
			least, line = n, i
		}
	}
	return int(least.Div(least, big.NewInt(1_000_000)).Int64()), line
}

// judgeAdvance returns what is paid at once for one delivery.
func judgeAdvance(t api.Terms, d api.Delivery) int {
	worth, _ := judgeWorth(t, d)
	return part(worth, t.Advance, 1000)
}

// judgeSettle asks all growers that there can be for their deliveries.
func judgeSettle(t api.Terms, l []api.Delivery, revenue int) (p []api.Payment, kept int) {
	all := 0
	for _, d := range l {
		worth, _ := judgeWorth(t, d)
		all += worth
	}
	kept = revenue
	for grower := range 1024 {
		x := api.Payment{Grower: grower}
		has := false
		for _, d := range l {
			if d.Grower == grower {
				worth, _ := judgeWorth(t, d)
				x.Worth += worth
				x.Advance += judgeAdvance(t, d)
				has = true
			}
		}
		if all > 0 {
			x.Share = part(revenue, x.Worth, all)
		}
		x.Rest = x.Share - x.Advance
		if has {
			p = append(p, x)
			kept -= x.Share
		}
	}
	return p, kept
}

// shareOf returns the share of a grower, or false if there is no payment to the grower.
func shareOf(p []api.Payment, grower int) (int, bool) {
	for _, x := range p {
		if x.Grower == grower {
			return x.Share, true
		}
	}
	return 0, false
}

// sizes bounds what is made: lines, growers, deliveries and how many grams are in each one.
type sizes struct{ lines, growers, deliveries, good int }

// few has so small numbers that what can be asked for can be gone through.
func few() sizes { return sizes{lines: 3, growers: 3, deliveries: 6, good: 60} }

// plain has numbers as they are in an autumn.
func plain() sizes { return sizes{lines: 4, growers: 20, deliveries: 40, good: 1 << 22} }

// great has numbers up to the limits.
func great() sizes {
	return sizes{lines: api.MaxLines, growers: api.MaxGrower + 1, deliveries: api.MaxDeliveries, good: api.MaxGross}
}

// world makes valid terms and deliveries; the same ones for the same seed.
type world struct {
	*rand.Rand
	sizes
}

func newWorld(seed uint64, s sizes) world { return world{rand.New(rand.NewPCG(seed, 53)), s} }

func (r world) between(lo, hi int) int { return lo + r.IntN(hi-lo+1) }

// upTo returns a number from 0 to most, of which some are at the ends.
func (r world) upTo(most int) int {
	switch r.IntN(8) {
	case 0:
		return 0
	case 1:
		return most
	}
	return r.between(0, most)
}

func (r world) someTerms() api.Terms {
	t := api.Terms{Advance: r.upTo(api.Whole)}
	for range r.between(1, r.lines) {
		t.Lines = append(t.Lines, api.Price{PerGram: r.upTo(api.MaxPerGram), PerColour: r.upTo(api.MaxPerColour)})
	}
	return t
}

func (r world) someDelivery() api.Delivery {
	good := r.upTo(r.good)
	return api.Delivery{Grower: r.IntN(r.growers), Good: good, Colour: r.upTo(good * api.MaxColour)}
}

func (r world) someDeliveries() []api.Delivery {
	var l []api.Delivery
	for range r.upTo(r.deliveries) {
		l = append(l, r.someDelivery())
	}
	return l
}

// someRevenue returns what a pool may earn: often about what the deliveries are worth.
func (r world) someRevenue(t api.Terms, l []api.Delivery) int {
	all := 0
	for _, d := range l {
		worth, _ := judgeWorth(t, d)
		all += worth
	}
	if r.IntN(2) == 0 {
		return r.between(0, min(2*all, api.MaxRevenue))
	}
	return r.upTo(api.MaxRevenue)
}

// split parts a delivery in two.
func (r world) split(d api.Delivery) (a, b api.Delivery) {
	a, b = d, d
	a.Good = r.between(0, d.Good)
	b.Good = d.Good - a.Good
	// Neither part can be redder than red.
	a.Colour = r.between(max(0, d.Colour-b.Good*api.MaxColour), min(d.Colour, a.Good*api.MaxColour))
	if r.IntN(3) == 0 {
		a.Colour = min(d.Colour, a.Good*api.MaxColour)
	}
	b.Colour = d.Colour - a.Colour
	return a, b
}

// each calls do with so many worlds of each size.
func each(n int, all []sizes, do func(seed uint64, r world)) {
	for seed := range uint64(n) {
		for _, s := range all {
			do(seed, newWorld(seed, s))
		}
	}
}

// eachWorld calls do with worlds of each size.
func eachWorld(do func(seed uint64, r world)) { each(300, []sizes{few(), plain(), great()}, do) }

// eachSmall calls do with worlds in which what can be asked for can be gone through.
func eachSmall(do func(seed uint64, r world)) { each(300, []sizes{few()}, do) }
