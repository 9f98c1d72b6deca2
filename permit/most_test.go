package permit_test

import (
	"testing"

	"fenberry/api"
	"fenberry/permit"
)

// P13.4: the chapter's examples.
func TestMostExamples(t *testing.T) {
	expectMost(t, "example", exampleRiver(), exact(20000), 13000, 285, api.OK)
	expectMost(t, "too warm", exampleRiver(), exact(20000), 10500, 0, api.ErrLimit)
}

// P13.4: the river may be as warm as the limit, but not warmer, also if it has no water or takes cool water.
func TestMostAtLimit(t *testing.T) {
	expectMost(t, "at the limit", exampleRiver(), exact(20000), 11000, 0, api.OK)
	expectMost(t, "above", exampleRiver(), exact(20000), 10999, 0, api.ErrLimit)
	expectMost(t, "cool water", exampleRiver(), exact(0), 10999, 0, api.ErrLimit)
	expectMost(t, "cool water", exampleRiver(), exact(0), 11000, 1<<30, api.OK)
	expectMost(t, "no water", flow(0, 0, 0, 11000), exact(20000), 10999, 0, api.ErrLimit)
	expectMost(t, "no water", flow(0, 0, 0, 11000), exact(20000), 11000, 0, api.OK)
	expectMost(t, "perhaps no water", flow(0, 1<<30, 0, 0), exact(20000), 19999, 0, api.OK)
	expectMost(t, "perhaps no water", flow(0, 1<<30, 0, 0), exact(20000), 20000, 1<<30, api.OK)
}

// P13.4: water that is surely not above the limit is not too much; the warmest that it can be decides.
func TestMostOfSomeWarmth(t *testing.T) {
	river := exampleRiver()
	expectMost(t, "at the limit", river, span(5, 13000), 13000, 1<<30, api.OK)
	expectMost(t, "a little above", river, span(5, 13001), 13000, 2000000, api.OK)
	expectMost(t, "a little above", river, span(13001, 13001), 13000, 2000000, api.OK)
	expectMost(t, "more above", river, span(5, 13002), 13000, 1000000, api.OK)
	expectMost(t, "much above", river, span(5, 40000), 13000, 74, api.OK)
	expectMost(t, "rounded down", flow(10, 99, 7, 9), span(0, 13), 10, 3, api.OK)
	expectMost(t, "rounded down", flow(10, 99, 7, 9), span(0, 20), 10, 1, api.OK)
	expectMost(t, "not one", flow(10, 99, 7, 9), span(0, 21), 10, 0, api.OK)
}

// P13.4: not more than 2^30 are let out.
func TestMostAtLimits(t *testing.T) {
	expectMost(t, "all", flow(1<<30, 1<<30, 0, 0), exact(40000), 39999, 1<<30, api.OK)
	expectMost(t, "as much", flow(1<<30, 1<<30, 0, 0), exact(40000), 20000, 1<<30, api.OK)
	expectMost(t, "less", flow(1<<30-1, 1<<30, 0, 0), exact(40000), 20000, 1<<30-1, api.OK)
	expectMost(t, "less", flow(1<<30, 1<<30, 0, 1), exact(40000), 20000, 1073688136, api.OK)
	expectMost(t, "the greatest limit", flow(0, 0, 40000, 40000), exact(40000), 40000, 1<<30, api.OK)
	expectMost(t, "the least limit", flow(7, 7, 0, 0), exact(0), 0, 1<<30, api.OK)
	expectMost(t, "the least limit", flow(7, 7, 0, 0), exact(1), 0, 0, api.OK)
	expectMost(t, "the least limit", flow(7, 7, 0, 1), exact(0), 0, 0, api.ErrLimit)
}

// P13.4: the order of errors: what is not valid, a limit that there cannot be, a river that is too warm.
func TestMostErrors(t *testing.T) {
	for _, n := range append(strangeNumbers(), 39999) {
		want := api.OK
		if n < 0 || n > 40000 {
			want = api.ErrRange
		} else if n < 11000 {
			want = api.ErrLimit
		}
		if _, e := permit.Most(exampleRiver(), exact(20000), n); e != want {
			t.Error("limit", n, e, want)
		}
		expectMost(t, "warm", exampleRiver(), span(2, 1), n, 0, api.ErrArg)
		expectMost(t, "river", flow(2, 1, 0, 40000), exact(1), n, 0, api.ErrArg)
		for _, warm := range []api.Span{span(0, n), span(n, n), span(n, 40000)} {
			valid := n >= 0 && n <= 40000
			for _, limit := range []int{-1, 10, 40000, 40001} {
				_, e := permit.Most(exampleRiver(), warm, limit)
				if valid == (e == api.ErrArg) {
					t.Error("warm", warm, limit, e)
				}
			}
		}
	}
}

// isSurelyCool reports whether so much water leaves the river with at most the limit, whatever is true.
func isSurelyCool(river api.Flow, warm api.Span, amount, limit int) bool {
	cool := true
	all(river.Water, func(water int) {
		all(river.Warm, func(w int) {
			all(warm, func(more int) { cool = cool && isCool(water, w, amount, more, limit) })
		})
	})
	return cool
}

// P13.4: as going through all that can be true with each amount.
func TestMostIsJudge(t *testing.T) {
	some, unlimited, refused := 0, 0, 0
	eachSmall(func(seed uint64, r world) {
		river, warm, limit := r.someFlow(), r.someSpan(r.warm), r.upTo(r.warm)
		n, e := permit.Most(river, warm, limit)
		switch {
		case river.Warm.Hi > limit:
			expectMost(t, "too warm", river, warm, limit, 0, api.ErrLimit)
			refused++
		case e != api.OK:
			t.Error("not too warm", river, warm, limit, e)
		case n == 1<<30:
			unlimited++
			if !isSurelyCool(river, warm, n, limit) {
				t.Error("too much", river, warm, limit)
			}
		default:
			want := 0
			for isSurelyCool(river, warm, want+1, limit) && want < 1000 {
				want++
			}
			if n != want {
				t.Error("instead of", river, warm, limit, n, want)
			}
			some++
		}
		if t.Failed() {
			t.Fatal(seed)
		}
	})
	if min(some, unlimited, refused) < 50 {
		t.Error("too few", some, unlimited, refused)
	}
}

// P13.8: with what Most says the river is never too warm, and Mix says the same; with one litre more it can be.
func TestMostIsNeverTooWarm(t *testing.T) {
	less := 0
	eachWorld(func(seed uint64, r world) {
		river, warm, limit := r.someFlow(), r.someSpan(r.warm), r.upTo(r.warm)
		n, e := permit.Most(river, warm, limit)
		if e != api.OK {
			return
		}
		for range 40 {
			if !isCool(r.inside(river.Water), r.inside(river.Warm), r.between(0, n), r.inside(warm), limit) {
				t.Fatal(seed, river, warm, limit, n)
			}
		}
		if !isCool(river.Water.Lo, river.Warm.Hi, n, warm.Hi, limit) {
			t.Fatal(seed, river, warm, limit, n)
		}
		if s, e := permit.Mix(river, api.Flow{Water: exact(n), Warm: warm}); e == api.OK && s.Hi > limit {
			t.Fatal(seed, river, warm, limit, n, s)
		}
		if n < 1<<30 {
			if isCool(river.Water.Lo, river.Warm.Hi, n+1, warm.Hi, limit) {
				t.Fatal(seed, river, warm, limit, n)
			}
			less++
		}
	})
	if less < 50 {
		t.Error("too few", less)
	}
}
