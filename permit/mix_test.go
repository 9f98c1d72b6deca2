package permit_test

import (
	"math/big"
	"testing"

	"fenberry/api"
	"fenberry/permit"
)

// flow returns water and its warmth.
func flow(waterLo, waterHi, warmLo, warmHi int) api.Flow {
	return api.Flow{Water: span(waterLo, waterHi), Warm: span(warmLo, warmHi)}
}

// P13.3: the chapter's example.
func TestMixExample(t *testing.T) {
	expectMix(t, "example", exampleRiver(), exampleFlow(), span(12000, 14000), api.OK)
}

// P13.3: the least is rounded down, the greatest up.
func TestMixRounds(t *testing.T) {
	expectMix(t, "exactly", flow(1, 1, 10, 10), flow(1, 1, 20, 20), span(15, 15), api.OK)
	expectMix(t, "a half", flow(1, 1, 10, 10), flow(1, 1, 21, 21), span(15, 16), api.OK)
	expectMix(t, "a third", flow(2, 2, 10, 10), flow(1, 1, 11, 11), span(10, 11), api.OK)
	expectMix(t, "two thirds", flow(1, 1, 10, 10), flow(2, 2, 11, 11), span(10, 11), api.OK)
	expectMix(t, "a little more than nothing", flow(1<<30, 1<<30, 0, 0), flow(1, 1, 1, 1), span(0, 1), api.OK)
	expectMix(t, "a little less than all", flow(1<<30, 1<<30, 40000, 40000), flow(1, 1, 39999, 39999), span(39999, 40000), api.OK)
}

// P13.3: each corner of what the waters can be decides somewhere.
func TestMixCorners(t *testing.T) {
	for _, c := range []struct {
		a, b api.Flow
		want api.Span
	}{
		// The cooler one's most and the warmer one's least water are coolest, the other way round they are warmest.
		{flow(1, 3, 100, 100), flow(1, 3, 500, 500), span(200, 400)},
		{flow(1, 3, 100, 300), flow(1, 3, 500, 700), span(200, 600)},
		// The same warmth stays, however much there is.
		{flow(1, 9, 300, 300), flow(2, 7, 300, 300), span(300, 300)},
		// One can be warmer than the other one, or cooler: its most water decides both.
		{flow(1, 4, 0, 1000), flow(1, 1, 500, 500), span(100, 900)},
		{flow(1, 4, 0, 1000), flow(1, 4, 500, 500), span(100, 900)},
		{flow(1, 4, 0, 1000), flow(1, 4, 0, 1000), span(0, 1000)},
		// The least of both, and the most of both, where one of them is known.
		{flow(1, 4, 0, 0), flow(1, 1, 1000, 1000), span(200, 500)},
		{flow(1, 4, 1000, 1000), flow(1, 1, 0, 0), span(500, 800)},
	} {
		expectMix(t, "corners", c.a, c.b, c.want, api.OK)
	}
}

// P13.3: one of both may be nothing, but not both.
func TestMixWithNothing(t *testing.T) {
	river := exampleRiver()
	expectMix(t, "nothing", river, api.Flow{}, span(10000, 11000), api.OK)
	expectMix(t, "warm nothing", river, flow(0, 0, 40000, 40000), span(10000, 11000), api.OK)
	expectMix(t, "perhaps nothing", river, flow(0, 1, 0, 0), span(9990, 11000), api.OK)
	expectMix(t, "one litre", flow(0, 9, 7, 8), flow(1, 1, 7, 7), span(7, 8), api.OK)
	for _, most := range []int{0, 1, 1 << 30} {
		expectMix(t, "both", flow(0, most, 0, 9), flow(0, 0, 0, 9), api.Span{}, api.ErrShort)
		expectMix(t, "both", flow(0, most, 7, 7), flow(0, most, 7, 7), api.Span{}, api.ErrShort)
	}
}

// P13.3, R5: the greatest numbers are exact.
func TestMixAtLimits(t *testing.T) {
	expectMix(t, "all", flow(1<<30, 1<<30, 40000, 40000), flow(1<<30, 1<<30, 39999, 39999), span(39999, 40000), api.OK)
	expectMix(t, "all", flow(0, 1<<30, 0, 40000), flow(1<<30, 1<<30, 0, 40000), span(0, 40000), api.OK)
	expectMix(t, "much", flow(1<<30, 1<<30, 0, 0), flow(1<<30-1, 1<<30, 40000, 40000), span(19999, 20000), api.OK)
}

// P13.3: as going through all numbers in the spans.
func TestMixIsJudge(t *testing.T) {
	mixed, short := 0, 0
	eachSmall(func(seed uint64, r world) {
		a, b := r.someFlow(), r.someFlow()
		if a.Water.Lo+b.Water.Lo == 0 {
			expectMix(t, "judge", a, b, api.Span{}, api.ErrShort)
			short++
			return
		}
		want := span(1<<20, 0)
		all(a.Water, func(waterA int) {
			all(b.Water, func(waterB int) {
				all(a.Warm, func(warmA int) {
					all(b.Warm, func(warmB int) {
						x := warmth(waterA, warmA, waterB, warmB)
						want.Lo, want.Hi = min(want.Lo, down(x)), max(want.Hi, up(x))
					})
				})
			})
		})
		expectMix(t, "judge", a, b, want, api.OK)
		mixed++
		if t.Failed() {
			t.Fatal(seed)
		}
	})
	if min(mixed, short) < 50 {
		t.Error("too few", mixed, short)
	}
}

// P13.3, P3: whatever is true is in the span; at the ends it is, but for rounding.
func TestMixWhateverIsTrue(t *testing.T) {
	eachWorld(func(seed uint64, r world) {
		a, b := r.someFlow(), r.someFlow()
		s, e := permit.Mix(a, b)
		if e != api.OK {
			return
		}
		coolest, warmest := big.NewRat(1<<20, 1), new(big.Rat)
		for range 40 {
			x := warmth(r.inside(a.Water), r.inside(a.Warm), r.inside(b.Water), r.inside(b.Warm))
			if down(x) < s.Lo || up(x) > s.Hi {
				t.Fatal(seed, a, b, s, x)
			}
		}
		for _, waterA := range []int{a.Water.Lo, a.Water.Hi} {
			for _, waterB := range []int{b.Water.Lo, b.Water.Hi} {
				if x := warmth(waterA, a.Warm.Lo, waterB, b.Warm.Lo); x.Cmp(coolest) < 0 {
					coolest = x
				}
				if x := warmth(waterA, a.Warm.Hi, waterB, b.Warm.Hi); x.Cmp(warmest) > 0 {
					warmest = x
				}
			}
		}
		if s != span(down(coolest), up(warmest)) {
			t.Fatal(seed, a, b, s, coolest, warmest)
		}
	})
}
