package pool_test

import (
	"math"
	"slices"
	"testing"

	"fenberry/api"
	"fenberry/pool"
)

// badNumbers are numbers for other arguments; some of them are beyond their ranges.
func badNumbers() []int { return []int{0, 1, -1, 1<<30 + 1, math.MinInt, math.MaxInt} }

// listTakes checks that the functions of many deliveries take terms and deliveries, or that all return ErrArg, also if their other arguments are beyond their ranges.
func listTakes(t *testing.T, name string, valid bool, terms api.Terms, l []api.Delivery) {
	t.Helper()
	if n, e := pool.Advances(terms, l); valid != (e == api.OK) || !valid && (n != 0 || e != api.ErrArg) {
		t.Error(name, terms, l, n, e)
	}
	for _, number := range badNumbers() {
		p, kept, e := pool.Settle(terms, l, number)
		n, f := pool.Break(terms, l, number, number)
		if valid == (e == api.ErrArg) || valid == (f == api.ErrArg) {
			t.Error(name, number, e, f)
		}
		if e != api.OK && (len(p) > 0 || kept != 0) || f != api.OK && n != 0 {
			t.Error("a result with an error", name, number, p, kept, e, n, f)
		}
	}
}

// oneTakes checks that the functions of one delivery take terms and a delivery, or that both return ErrArg.
func oneTakes(t *testing.T, name string, valid bool, terms api.Terms, d api.Delivery) {
	t.Helper()
	if n, line, e := pool.Worth(terms, d); valid != (e == api.OK) || !valid && (n != 0 || line != 0 || e != api.ErrArg) {
		t.Error(name, terms, d, n, line, e)
	}
	for _, number := range badNumbers() {
		n, e := pool.Redder(terms, d, number)
		if valid == (e == api.ErrArg) || e != api.OK && n != 0 {
			t.Error(name, terms, d, number, n, e)
		}
	}
}

// termsTake checks that all functions take terms, or none.
func termsTake(t *testing.T, name string, valid bool, terms api.Terms) {
	t.Helper()
	oneTakes(t, name, valid, terms, brings(1, 2, 3))
	listTakes(t, name, valid, terms, exampleDeliveries())
	listTakes(t, name, valid, terms, nil)
}

// near returns strange numbers, and those about the ends of a range.
func near(least, most int) []int {
	return append(strangeNumbers(), least-1, least, least+1, most-1, most, most+1)
}

// termsField checks that terms may have a field from 0 to most, and no other one.
func termsField(t *testing.T, name string, most int, field func(t *api.Terms) *int) {
	t.Helper()
	for _, n := range near(0, most) {
		terms := cloneTerms(exampleTerms())
		*field(&terms) = n
		termsTake(t, name, n >= 0 && n <= most, terms)
	}
}

func TestValidTerms(t *testing.T) {
	for i := range 2 {
		termsField(t, "per gram", 1<<17, func(t *api.Terms) *int { return &t.Lines[i].PerGram })
		termsField(t, "per colour", 1<<9, func(t *api.Terms) *int { return &t.Lines[i].PerColour })
	}
	termsField(t, "advance", 1000, func(t *api.Terms) *int { return &t.Advance })
	for n, valid := range map[int]bool{0: false, 1: true, 2: true, 7: true, 8: true, 9: false, 1000: false} {
		termsTake(t, "lines", valid, api.Terms{Lines: make([]api.Price, n)})
	}
	termsTake(t, "nil", false, api.Terms{Advance: 5})
	last := slices.Repeat([]api.Price{{PerGram: 1, PerColour: 1}}, 8)
	last[7].PerColour = 513
	termsTake(t, "the last line", false, api.Terms{Lines: last})
}

// deliveryField checks that a delivery may have a field from 0 to most, and no other one.
func deliveryField(t *testing.T, name string, most int, given api.Delivery, field func(d *api.Delivery) *int) {
	t.Helper()
	for _, n := range near(0, most) {
		d := given
		*field(&d) = n
		valid := n >= 0 && n <= most
		oneTakes(t, name, valid, exampleTerms(), d)
		l := exampleDeliveries()
		for i := range l {
			listTakes(t, name, valid, exampleTerms(), slices.Insert(l, i, d))
		}
		listTakes(t, name, valid, exampleTerms(), append(l, d))
	}
}

func TestValidDeliveries(t *testing.T) {
	d := brings(5, 1000, 60)
	deliveryField(t, "grower", 1023, d, func(d *api.Delivery) *int { return &d.Grower })
	deliveryField(t, "colour", 255000, d, func(d *api.Delivery) *int { return &d.Colour })
	deliveryField(t, "good", 1<<27, api.Delivery{}, func(d *api.Delivery) *int { return &d.Good })
	deliveryField(t, "colour of nothing", 0, api.Delivery{}, func(d *api.Delivery) *int { return &d.Colour })
	deliveryField(t, "colour of a gram", 255, api.Delivery{Good: 1}, func(d *api.Delivery) *int { return &d.Colour })
	deliveryField(t, "colour of the most", 255<<27, api.Delivery{Good: 1 << 27}, func(d *api.Delivery) *int { return &d.Colour })
	for good, valid := range map[int]bool{234: false, 235: false, 236: true, 237: true} {
		oneTakes(t, "weight of colour", valid, exampleTerms(), api.Delivery{Good: good, Colour: 60000})
	}
	// Products that are beyond all numbers are too much, too.
	for _, bad := range []api.Delivery{{Good: -1, Colour: -1}, {Good: -1, Colour: -255}, {Good: math.MinInt, Colour: 0}, {Good: math.MaxInt, Colour: 5}, {Good: math.MaxInt / 255, Colour: 5}, {Good: 1 << 57, Colour: 5}} {
		oneTakes(t, "beyond", false, exampleTerms(), bad)
		listTakes(t, "beyond", false, exampleTerms(), []api.Delivery{bad})
	}
	for n, valid := range map[int]bool{0: true, 1: true, 127: true, 128: true, 129: false, 1000: false} {
		listTakes(t, "deliveries", valid, exampleTerms(), slices.Repeat([]api.Delivery{d}, n))
	}
	last := slices.Repeat([]api.Delivery{d}, 128)
	last[127].Grower = 1024
	listTakes(t, "the last delivery", false, exampleTerms(), last)
}

// P1, R2: no function panics, and none gives a result with an error.
func TestStrangeArguments(t *testing.T) {
	errors := map[api.Errno]int{}
	for seed := range uint64(3000) {
		r := newWorld(seed, plain())
		strange := func() int { return strangeNumbers()[r.IntN(len(strangeNumbers()))] }
		terms, l, d := r.someTerms(), append(r.someDeliveries(), exampleDeliveries()...), r.someDelivery()
		line, x := &terms.Lines[r.IntN(len(terms.Lines))], &l[r.IntN(len(l))]
		for range r.IntN(2) {
			*[]*int{&line.PerGram, &line.PerColour, &terms.Advance, &x.Grower, &x.Good, &x.Colour, &d.Grower, &d.Good, &d.Colour}[r.IntN(9)] = strange()
		}
		grower := []int{strange(), x.Grower}[r.IntN(2)]
		worth, index, e1 := pool.Worth(terms, d)
		n, e2 := pool.Advances(terms, l)
		p, kept, e3 := pool.Settle(terms, l, strange())
		least, e4 := pool.Break(terms, l, grower, strange())
		colour, e5 := pool.Redder(terms, d, strange())
		all := [5]api.Errno{e1, e2, e3, e4, e5}
		for i, zero := range []bool{worth == 0 && index == 0, n == 0, len(p) == 0 && kept == 0, least == 0, colour == 0} {
			if all[i] != api.OK && !zero {
				t.Error("a result with an error", seed, i, all[i])
			}
			errors[all[i]]++
		}
	}
	for _, e := range []api.Errno{api.OK, api.ErrArg, api.ErrRange, api.ErrNone, api.ErrShort} {
		if errors[e] < 50 {
			t.Error("too few", errors)
		}
	}
	if len(errors) != 5 {
		t.Error("other errors", errors)
	}
}
