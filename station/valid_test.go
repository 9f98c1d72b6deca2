package station_test

import (
	"math"
	"slices"
	"testing"

	"fenberry/api"
	"fenberry/station"
)

// trucksTake checks that Queue and Bays take the trucks, or that both return ErrArg, also if their other arguments are beyond their ranges.
func trucksTake(t *testing.T, name string, valid bool, l []api.Truck) {
	t.Helper()
	for _, n := range []int{1, 8, 0, -1, 9, 1<<20 + 1, math.MinInt, math.MaxInt} {
		v, e := station.Queue(l, n)
		bays, f := station.Bays(l, n)
		if valid != (e != api.ErrArg) || valid != (f != api.ErrArg) {
			t.Error(name, n, e, f)
		}
		if e != api.OK && len(v) > 0 || f != api.OK && bays != 0 {
			t.Error("a result with an error", name, n, v, e, bays, f)
		}
	}
}

// slipTakes checks that Weigh takes the slip, or that it returns ErrArg and no load.
func slipTakes(t *testing.T, name string, valid bool, s api.Slip) {
	t.Helper()
	l, e := station.Weigh(s)
	if valid != (e == api.OK) || !valid && (e != api.ErrArg || l != api.Load{}) {
		t.Error(name, s, l, e)
	}
}

// spans checks that trucks may have spans within 0 to most, and no other ones.
func spans(t *testing.T, name string, most int, field func(u *api.Truck) *api.Span) {
	t.Helper()
	for i := range 3 {
		take := func(valid bool, s api.Span) {
			t.Helper()
			l := exampleTrucks()
			*field(&l[i]) = s
			trucksTake(t, name, valid, l)
		}
		for _, s := range []api.Span{{}, {Hi: 1}, {Lo: 1, Hi: 1}, {Hi: most}, {Lo: most, Hi: most}, {Lo: 7, Hi: most - 1}} {
			take(true, s)
		}
		for _, s := range []api.Span{{Lo: -1}, {Lo: -1, Hi: -1}, {Lo: 1}, {Lo: most, Hi: most - 1}, {Hi: most + 1}, {Lo: most + 1, Hi: most + 1}, {Hi: -1}, {Lo: math.MinInt, Hi: math.MaxInt}, {Lo: math.MaxInt, Hi: math.MinInt}, {Lo: math.MinInt, Hi: 5}, {Lo: 5, Hi: math.MaxInt}} {
			take(false, s)
		}
	}
}

func TestValidTrucks(t *testing.T) {
	spans(t, "arrive", 1<<20, func(u *api.Truck) *api.Span { return &u.Arrive })
	spans(t, "work", 1440, func(u *api.Truck) *api.Span { return &u.Work })
	for n, valid := range map[int]bool{0: true, 1: true, 63: true, 64: true, 65: false, 66: false, 1000: false} {
		trucksTake(t, "trucks", valid, make([]api.Truck, n))
		trucksTake(t, "trucks", valid, slices.Repeat(exampleTrucks()[:1], n))
	}
	last := make([]api.Truck, 64)
	last[63].Work.Hi = 1441
	trucksTake(t, "the last truck", false, last)
}

// numbers checks that Weigh takes a slip with a number from least to most, and no other one.
func numbers(t *testing.T, name string, least, most int, given api.Slip, field func(s *api.Slip) *int) {
	t.Helper()
	for _, n := range append(strangeNumbers(), least-1, least, least+1, most-1, most, most+1) {
		s := cloneSlip(given)
		*field(&s) = n
		slipTakes(t, name, n >= least && n <= most, s)
	}
}

func TestValidSlips(t *testing.T) {
	s := exampleSlip()
	numbers(t, "grower", 0, 1023, s, func(s *api.Slip) *int { return &s.Grower })
	numbers(t, "bed", 0, 1023, s, func(s *api.Slip) *int { return &s.Bed })
	numbers(t, "day", 0, 1<<14, s, func(s *api.Slip) *int { return &s.Day })
	numbers(t, "gross", 3000, 1<<27, s, func(s *api.Slip) *int { return &s.Gross })
	numbers(t, "tare", 0, 10000, s, func(s *api.Slip) *int { return &s.Tare })
	s.Gross, s.Tare = 0, 0
	numbers(t, "gross without tare", 0, 1<<27, s, func(s *api.Slip) *int { return &s.Gross })
	numbers(t, "tare of nothing", 0, 0, s, func(s *api.Slip) *int { return &s.Tare })
	slipTakes(t, "below 0", false, api.Slip{Gross: -1, Tare: -1, Samples: s.Samples})
	slipTakes(t, "zero", false, api.Slip{})
}

func TestValidSamples(t *testing.T) {
	s := exampleSlip()
	for i := range s.Samples {
		x := s.Samples[i]
		numbers(t, "weight", max(1, x.Trash+x.Rot), 1<<20, s, func(s *api.Slip) *int { return &s.Samples[i].Weight })
		numbers(t, "trash", 0, x.Weight-x.Rot, s, func(s *api.Slip) *int { return &s.Samples[i].Trash })
		numbers(t, "rot", 0, x.Weight-x.Trash, s, func(s *api.Slip) *int { return &s.Samples[i].Rot })
		numbers(t, "colour", 0, 255, s, func(s *api.Slip) *int { return &s.Samples[i].Colour })
		numbers(t, "firm", 0, 1000, s, func(s *api.Slip) *int { return &s.Samples[i].Firm })
	}
	clean := slip(10, api.Sample{Weight: 5})
	numbers(t, "weight of a clean one", 1, 1<<20, clean, func(s *api.Slip) *int { return &s.Samples[0].Weight })
	numbers(t, "trash of a clean one", 0, 5, clean, func(s *api.Slip) *int { return &s.Samples[0].Trash })
	numbers(t, "rot of a clean one", 0, 5, clean, func(s *api.Slip) *int { return &s.Samples[0].Rot })
	// Sums that are beyond all numbers are too much, too.
	for _, x := range []api.Sample{{Weight: 5, Trash: math.MaxInt, Rot: math.MaxInt}, {Weight: 5, Trash: math.MinInt, Rot: math.MinInt}, {Weight: 5, Trash: 6, Rot: -1}, {Weight: 5, Trash: -1, Rot: 6}, {Weight: math.MaxInt, Trash: math.MaxInt}, {Weight: math.MinInt, Rot: math.MinInt}} {
		slipTakes(t, "beyond", false, slip(10, x))
	}
	for n, valid := range map[int]bool{0: false, 1: true, 31: true, 32: true, 33: false, 1000: false} {
		slipTakes(t, "samples", valid, slip(10, slices.Repeat([]api.Sample{{Weight: 1}}, n)...))
	}
	last := slices.Repeat([]api.Sample{{Weight: 1}}, 32)
	last[31].Rot = 2
	slipTakes(t, "the last sample", false, slip(10, last...))
}

// P1, R2: no function panics, and none gives a result with an error.
func TestStrangeArguments(t *testing.T) {
	errors := map[api.Errno]int{}
	for seed := range uint64(3000) {
		r := newWorld(seed, plain())
		strange := func() int { return strangeNumbers()[r.IntN(len(strangeNumbers()))] }
		l := append(r.someTrucks(), exampleTrucks()...)
		s := r.someSlip()
		truck, x := &l[r.IntN(len(l))], &s.Samples[r.IntN(len(s.Samples))]
		for range r.IntN(3) {
			*[]*int{&truck.Arrive.Lo, &truck.Arrive.Hi, &truck.Work.Lo, &truck.Work.Hi}[r.IntN(4)] = strange()
			*[]*int{&s.Grower, &s.Bed, &s.Day, &s.Gross, &s.Tare, &x.Weight, &x.Trash, &x.Rot, &x.Colour, &x.Firm}[r.IntN(10)] = strange()
		}
		berries := append(r.someBerries(), []int{strange()})
		v, e1 := station.Queue(l, strange())
		n, e2 := station.Bays(l, strange())
		w, e3 := station.Weigh(s)
		bounces, e4 := station.Bounce(berries, strange(), strange())
		all := [4]api.Errno{e1, e2, e3, e4}
		for i, zero := range []bool{len(v) == 0, n == 0, w == api.Load{}, bounces == 0} {
			if all[i] != api.OK && !zero {
				t.Error("a result with an error", seed, i, all[i])
			}
			errors[all[i]]++
		}
	}
	for _, e := range []api.Errno{api.OK, api.ErrArg, api.ErrRange, api.ErrNone} {
		if errors[e] < 50 {
			t.Error("too few", errors)
		}
	}
	if len(errors) != 4 {
		t.Error("other errors", errors)
	}
}
