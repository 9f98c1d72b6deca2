package bloom_test

import (
	"math"
	"slices"
	"testing"

	"fenberry/api"
	"fenberry/bloom"
)

// P4.1: what makes an inspection valid.
func TestInspections(t *testing.T) {
	check := func(name string, valid bool, x api.Inspection) {
		t.Helper()
		s, e := bloom.Strength(x)
		if valid != (e == api.OK) || !valid && (e != api.ErrArg || s != api.Span{}) {
			t.Error(name, x.Hives, x.Least, x.Most, s, e)
		}
	}
	for n, valid := range map[int]bool{math.MinInt: false, -1: false, 0: false, 1: true, 2: true, 4096: true, 4097: false, math.MaxInt: false} {
		check("hives", valid, api.Inspection{Hives: n, Most: 256})
	}
	for n, valid := range map[int]bool{math.MinInt: false, -1: false, 0: true, 1: true, 200: true, 201: false, 257: false, math.MaxInt: false} {
		check("least", valid, api.Inspection{Hives: 3, Least: n, Most: 200})
	}
	for n, valid := range map[int]bool{math.MinInt: false, -1: false, 0: false, 9: false, 10: true, 11: true, 256: true, 257: false, math.MaxInt: false} {
		check("most", valid, api.Inspection{Hives: 3, Least: 10, Most: n})
	}
	check("nothing", false, api.Inspection{})
	check("no bees", true, api.Inspection{Hives: 1})
	check("all full", true, api.Inspection{Hives: 1, Least: 256, Most: 256})
	check("one frame too many", false, api.Inspection{Hives: 1, Least: 257, Most: 257})
	for seen, valid := range map[int]bool{0: true, 1: true, 3: true, 4: false, 9: false, 5000: false} {
		check("seen", valid, api.Inspection{Hives: 3, Most: 12, Seen: make([]api.Span, seen)})
	}
	for s, valid := range map[api.Span]bool{
		span(4, 12): true, span(4, 4): true, span(12, 12): true, span(7, 8): true,
		span(3, 12): false, span(4, 13): false, span(8, 7): false, span(12, 4): false, span(2, 3): false, span(13, 14): false,
		span(math.MinInt, 5): false, span(5, math.MaxInt): false, span(math.MinInt, math.MaxInt): false, span(math.MaxInt, math.MinInt): false,
	} {
		for place := range 3 {
			seen := []api.Span{span(5, 6), span(5, 6), span(5, 6)}
			seen[place] = s
			check("seen", valid, api.Inspection{Hives: 3, Least: 4, Most: 12, Seen: seen})
		}
	}
}

// allTake checks that all functions take a bloom, or that each of them returns ErrArg; also if its plan is none.
func allTake(t *testing.T, name string, valid bool, x api.Bloom) {
	t.Helper()
	plan := slices.Repeat([][]int{slices.Repeat([]int{-1}, len(x.Colonies))}, max(0, min(20, x.Days)))
	for _, p := range [][][]int{plan, {{9}}} {
		cost, day, e1 := bloom.Check(x, p)
		vital, e2 := bloom.Vital(x, p)
		if valid != (e1 != api.ErrArg) || valid != (e2 != api.ErrArg) || e1 != api.OK && (cost != 0 || len(vital) != 0) {
			t.Error(name, cost, day, vital, e1, e2)
		}
		if !valid && day != 0 {
			t.Error(name, day)
		}
	}
	best, cost, e := bloom.Cheapest(x)
	if valid != (e != api.ErrArg) || e != api.OK && (len(best) != 0 || cost != 0) {
		t.Error(name, best, cost, e)
	}
}

// P4.2 to P4.4: ErrArg unless the numbers of a bloom are within their limits, ahead of all other errors.
func TestBlooms(t *testing.T) {
	number := func(name string, field func(x *api.Bloom) *int, valid bool, values ...int) {
		t.Helper()
		for _, n := range values {
			x := example()
			*field(&x) = n
			allTake(t, name, valid, x)
		}
	}
	number("days", func(x *api.Bloom) *int { return &x.Days }, true, 0, 1, 14)
	number("days", func(x *api.Bloom) *int { return &x.Days }, false, math.MinInt, -1, 15, math.MaxInt)
	number("moves", func(x *api.Bloom) *int { return &x.Moves }, true, 0, 1, 3, 4)
	number("moves", func(x *api.Bloom) *int { return &x.Moves }, false, math.MinInt, -1, 5, math.MaxInt)
	number("fee", func(x *api.Bloom) *int { return &x.Fee }, true, 0, api.MaxRent)
	number("fee", func(x *api.Bloom) *int { return &x.Fee }, false, math.MinInt, -1, api.MaxRent+1, math.MaxInt)
	for i := range 3 {
		number("least frames", func(x *api.Bloom) *int { return &x.Colonies[i].Frames.Lo }, true, 0, 8)
		number("least frames", func(x *api.Bloom) *int { return &x.Colonies[i].Frames.Lo }, false, math.MinInt, -1, 13, api.MaxFrames+1, math.MaxInt)
		number("most frames", func(x *api.Bloom) *int { return &x.Colonies[i].Frames.Hi }, true, 10, api.MaxFrames)
		number("most frames", func(x *api.Bloom) *int { return &x.Colonies[i].Frames.Hi }, false, math.MinInt, -1, 5, api.MaxFrames+1, math.MaxInt)
		number("price", func(x *api.Bloom) *int { return &x.Colonies[i].Price }, true, 0, api.MaxRent)
		number("price", func(x *api.Bloom) *int { return &x.Colonies[i].Price }, false, math.MinInt, -1, api.MaxRent+1, math.MaxInt)
		number("from", func(x *api.Bloom) *int { return &x.Colonies[i].From }, true, math.MinInt, -1, 3, 15, math.MaxInt)
		number("to", func(x *api.Bloom) *int { return &x.Colonies[i].To }, true, math.MinInt, -1, 3, 15, math.MaxInt)
	}
	for i := range 2 {
		number("need", func(x *api.Bloom) *int { return &x.Beds[i].Need }, true, 0, 1, api.MaxFrames)
		number("need", func(x *api.Bloom) *int { return &x.Beds[i].Need }, false, math.MinInt, -1, api.MaxFrames+1, math.MaxInt)
		number("from", func(x *api.Bloom) *int { return &x.Beds[i].From }, true, math.MinInt, -1, 3, 15, math.MaxInt)
		number("to", func(x *api.Bloom) *int { return &x.Beds[i].To }, true, math.MinInt, -1, 3, 15, math.MaxInt)
	}
}

// P4.2 to P4.4: ErrArg for too many colonies or beds.
func TestHowMany(t *testing.T) {
	for n, valid := range []bool{true, true, true, true, true, false, false, false} {
		x := example()
		x.Colonies = slices.Repeat(x.Colonies[:1], n)
		allTake(t, "colonies", valid, x)
		x = example()
		x.Beds = slices.Repeat(x.Beds[:1], n)
		allTake(t, "beds", valid && n < 4, x)
	}
	allTake(t, "nothing", true, api.Bloom{})
	allTake(t, "least and most frames", true, api.Bloom{Colonies: []api.Colony{{Frames: span(api.MaxFrames, api.MaxFrames)}, {}}})
}

// P1: no argument makes a function panic.
func TestNoPanic(t *testing.T) {
	odd := strangeNumbers()
	eachWorld(func(seed uint64, r world) {
		strange := func(numbers ...*int) {
			for _, n := range numbers {
				if r.IntN(40) == 0 {
					*n = odd[r.IntN(len(odd))]
				}
			}
		}
		x := r.someBloom()
		plan := r.somePlan(x)
		strange(&x.Days, &x.Moves, &x.Fee)
		for i := range x.Colonies {
			c := &x.Colonies[i]
			strange(&c.Frames.Lo, &c.Frames.Hi, &c.Price, &c.From, &c.To)
		}
		for i := range x.Beds {
			b := &x.Beds[i]
			strange(&b.From, &b.To, &b.Need)
		}
		for day, row := range plan {
			for i := range row {
				strange(&row[i])
			}
			if r.IntN(30) == 0 {
				plan[day] = row[:len(row)/2]
			}
		}
		in, _ := r.someInspection(5)
		strange(&in.Hives, &in.Least, &in.Most)
		for i := range in.Seen {
			strange(&in.Seen[i].Lo, &in.Seen[i].Hi)
		}
		bloom.Strength(in)
		bloom.Check(x, plan)
		bloom.Vital(x, plan)
		bloom.Cheapest(x)
	})
}
