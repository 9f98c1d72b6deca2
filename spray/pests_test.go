package spray_test

import (
	"math"
	"slices"
	"testing"

	"fenberry/api"
	"fenberry/spray"
)

func trap(caught, lo, hi int) api.Trap { return api.Trap{Caught: caught, Rate: span(lo, hi)} }

func expectPests(t *testing.T, name string, l []api.Trap, want api.Span, wantError api.Errno) {
	t.Helper()
	if s, e := spray.Pests(l); s != want || e != wantError {
		t.Error(name, l, s, e, "instead of", want, wantError)
	}
}

func expectNeeded(t *testing.T, name string, l []api.Trap, limit int, wantSurely, wantPerhaps bool, wantError api.Errno) {
	t.Helper()
	if surely, perhaps, e := spray.Needed(l, limit); surely != wantSurely || perhaps != wantPerhaps || e != wantError {
		t.Error(name, l, limit, surely, perhaps, e, "instead of", wantSurely, wantPerhaps, wantError)
	}
}

// P5.6, P5.7: the chapter's examples.
func TestPestsExamples(t *testing.T) {
	l := []api.Trap{trap(3, 100, 200), trap(0, 500, 500)}
	expectPests(t, "example", l[:1], span(11, 39), api.OK)
	expectPests(t, "example", l, span(11, 40), api.OK)
	expectNeeded(t, "example", l[:1], 11, true, true, api.OK)
	expectNeeded(t, "example", l[:1], 40, false, false, api.OK)
}

// P5.6: by hand.
func TestPestsByHand(t *testing.T) {
	for _, c := range []struct {
		name string
		l    []api.Trap
		want api.Span
	}{
		{"no traps", nil, span(0, 0)},
		{"no traps", []api.Trap{}, span(0, 0)},
		{"all are caught", []api.Trap{trap(7, 1000, 1000)}, span(7, 7)},
		{"all are caught, and there were none", []api.Trap{trap(0, 1000, 1000)}, span(0, 0)},
		{"perhaps all are caught", []api.Trap{trap(7, 500, 1000)}, span(7, 15)},
		{"half of them", []api.Trap{trap(7, 500, 500)}, span(13, 15)},
		{"half of one", []api.Trap{trap(1, 500, 500)}, span(1, 3)},
		{"none of one", []api.Trap{trap(0, 500, 500)}, span(0, 1)},
		{"a third and a bit, or less", []api.Trap{trap(2, 333, 334)}, span(3, 9)},
		{"a third and a bit, or more", []api.Trap{trap(4, 333, 334)}, span(9, 15)},
		{"two thirds and a bit", []api.Trap{trap(2, 667, 667)}, span(2, 4)},
		{"few are caught", []api.Trap{trap(1, 1, 1)}, span(1, 1999)},
		{"few are caught, and none of them", []api.Trap{trap(0, 1, 1)}, span(0, 999)},
		{"few are caught, but two of them", []api.Trap{trap(2, 1, 1)}, span(1001, 2999)},
		{"anything may be caught", []api.Trap{trap(0, 1, 1000)}, span(0, 999)},
		{"anything may be caught", []api.Trap{trap(5, 1, 1000)}, span(5, 5999)},
		{"all but a thousandth", []api.Trap{trap(1000, 999, 999)}, span(1001, 1002)},
		{"three together", []api.Trap{trap(7, 1000, 1000), trap(3, 100, 200), trap(1, 1, 1)}, span(19, 2045)},
		{"the same one twice", []api.Trap{trap(3, 100, 200), trap(3, 100, 200)}, span(22, 78)},
		{"most", []api.Trap{trap(api.MaxCaught, 1, 1)}, span((1<<20-1)*1000+1, (1<<20+1)*1000-1)},
		{"most of all", slices.Repeat([]api.Trap{trap(api.MaxCaught, 1, 1)}, 64), span(64*((1<<20-1)*1000+1), 64*((1<<20+1)*1000-1))},
	} {
		expectPests(t, c.name, c.l, c.want, api.OK)
	}
}

// canCatch reports whether a trap can catch as many as it caught, if there are n insects near it.
func canCatch(x api.Trap, n int) bool {
	least := int(math.Floor(float64(n*x.Rate.Lo) / 1000))
	greatest := int(math.Ceil(float64(n*x.Rate.Hi) / 1000))
	return least <= x.Caught && x.Caught <= greatest
}

// P5.6, P5.11: the numbers that can be, and no other ones, are between the ends.
func TestPestsIsAllNumbers(t *testing.T) {
	check := func(x api.Trap) {
		s, e := spray.Pests([]api.Trap{x})
		for n := range s.Hi + 50 {
			if e != api.OK || canCatch(x, n) != (s.Lo <= n && n <= s.Hi) {
				t.Fatal(x, n, s, e)
			}
		}
	}
	for seed := range uint64(2000) {
		for _, x := range newWorld(seed, few()).someTraps() {
			check(x)
		}
	}
	for caught := range 4 {
		for rate := 1; rate <= api.Whole; rate++ {
			check(trap(caught, rate, rate))
		}
	}
}

// P5.11: whatever is caught of insects, there can be as many as there are; both ends of all traps together can be true.
func TestPestsHoldTruth(t *testing.T) {
	for seed := range uint64(2000) {
		r := newWorld(seed, few())
		var l []api.Trap
		truth := 0
		for range r.IntN(6) {
			rate := r.someSpan(1, api.Whole)
			n := r.IntN(r.between(1, 3000))
			caught := r.between(n*rate.Lo/1000, (n*rate.Hi+999)/1000)
			truth += n
			l = append(l, api.Trap{Caught: caught, Rate: rate})
		}
		s, e := spray.Pests(l)
		if truth < s.Lo || truth > s.Hi || e != api.OK {
			t.Fatal(seed, l, truth, s, e)
		}
		least, greatest := 0, 0
		for _, x := range l {
			one, _ := spray.Pests([]api.Trap{x})
			least, greatest = least+one.Lo, greatest+one.Hi
			if !canCatch(x, one.Lo) || !canCatch(x, one.Hi) {
				t.Fatal(seed, x, one)
			}
		}
		expectPests(t, "sum", l, span(least, greatest), api.OK)
		slices.Reverse(l)
		expectPests(t, "in another order", l, s, api.OK)
	}
}

// P5.6, P5.7: ErrLong for more than 64 traps, ahead of ErrArg unless all are valid.
func TestPestsErrors(t *testing.T) {
	many := slices.Repeat([]api.Trap{trap(1, 500, 500)}, 64)
	expectPests(t, "64", many, span(64, 192), api.OK)
	for _, l := range [][]api.Trap{append(many, many[0]), make([]api.Trap, 65), make([]api.Trap, 5000)} {
		expectPests(t, "too many", l, api.Span{}, api.ErrLong)
		expectNeeded(t, "too many", l, 0, false, false, api.ErrLong)
		expectNeeded(t, "too many", l, -1, false, false, api.ErrLong)
	}
	for x, valid := range map[api.Trap]bool{
		trap(0, 1, 1): true, trap(api.MaxCaught, 1000, 1000): true, trap(0, 1, 1000): true, trap(5, 500, 500): true,
		trap(-1, 1, 1): false, trap(api.MaxCaught+1, 1, 1): false, trap(math.MinInt, 1, 1): false, trap(math.MaxInt, 1, 1): false,
		trap(0, 0, 1): false, trap(0, 0, 0): false, trap(0, 1, 1001): false, trap(0, 1001, 1001): false, trap(0, 2, 1): false, trap(0, 1000, 1): false,
		trap(0, -1, 5): false, trap(0, math.MinInt, math.MaxInt): false, trap(0, math.MaxInt, math.MinInt): false, trap(0, math.MinInt, 5): false, trap(0, 5, math.MaxInt): false,
		{}: false,
	} {
		for place := range 3 {
			l := []api.Trap{trap(1, 1, 1), trap(2, 2, 2), trap(3, 3, 3)}
			l[place] = x
			_, e := spray.Pests(l)
			_, _, e2 := spray.Needed(l, 0)
			if valid != (e == api.OK) || e2 != e {
				t.Error(x, e, e2)
			}
			if !valid {
				expectPests(t, "not valid", l, api.Span{}, api.ErrArg)
				expectNeeded(t, "not valid", l, -1, false, false, api.ErrArg)
			}
		}
	}
}

// P5.7: surely from the least number on, perhaps from the greatest one on; ErrRange unless the limit is an amount.
func TestNeeded(t *testing.T) {
	l := []api.Trap{trap(3, 100, 200)}
	for _, c := range []struct {
		limit           int
		surely, perhaps bool
	}{{0, true, true}, {1, true, true}, {10, true, true}, {11, true, true}, {12, false, true}, {38, false, true}, {39, false, true}, {40, false, false}, {41, false, false}, {api.MaxAmount, false, false}} {
		expectNeeded(t, "limit", l, c.limit, c.surely, c.perhaps, api.OK)
	}
	expectNeeded(t, "no traps, no limit", nil, 0, true, true, api.OK)
	expectNeeded(t, "no traps", nil, 1, false, false, api.OK)
	for _, limit := range []int{math.MinInt, -1, api.MaxAmount + 1, math.MaxInt} {
		expectNeeded(t, "beyond", l, limit, false, false, api.ErrRange)
		expectNeeded(t, "beyond, no traps", nil, limit, false, false, api.ErrRange)
	}
}

// P5.7, P5.11: as Pests says; what is surely needed is perhaps needed, too.
func TestNeededIsPests(t *testing.T) {
	for seed := range uint64(500) {
		l := newWorld(seed, few()).someTraps()
		s, _ := spray.Pests(l)
		for _, limit := range []int{0, s.Lo - 1, s.Lo, s.Lo + 1, (s.Lo + s.Hi) / 2, s.Hi - 1, s.Hi, s.Hi + 1} {
			if limit < 0 {
				continue
			}
			expectNeeded(t, "as Pests says", l, limit, limit <= s.Lo, limit <= s.Hi, api.OK)
			if surely, perhaps, _ := spray.Needed(l, limit); surely && !perhaps {
				t.Error(l, limit)
			}
		}
	}
}
