package permit_test

import (
	"testing"

	"fenberry/api"
	"fenberry/permit"
)

// P13.6: the chapter's example.
func TestBalanceExample(t *testing.T) {
	expectBalance(t, "example", examplePhosphorus(), span(600, 1000), span(400, 600), api.OK)
}

// P13.6: what is known leaves what is known.
func TestBalanceOfWhatIsKnown(t *testing.T) {
	x := api.Phosphorus{Before: exact(100), In: exact(20), Out: exact(7), Berries: exact(4), Content: exact(5)}
	expectBalance(t, "known", x, exact(93), exact(20), api.OK)
	x.Before = span(100, 103)
	expectBalance(t, "before", x, span(93, 96), exact(20), api.OK)
	x.In = span(19, 21)
	expectBalance(t, "in", x, span(92, 97), exact(20), api.OK)
	x.Out = span(0, 8)
	expectBalance(t, "out", x, span(91, 104), exact(20), api.OK)
	x.Berries = span(3, 6)
	expectBalance(t, "berries", x, span(81, 109), span(15, 30), api.OK)
	x.Content = span(0, 6)
	expectBalance(t, "content", x, span(75, 124), span(0, 36), api.OK)
	expectBalance(t, "nothing", api.Phosphorus{}, api.Span{}, api.Span{}, api.OK)
}

// P13.6: not less than nothing is left; what surely is too much is none.
func TestBalanceOfTooMuch(t *testing.T) {
	x := examplePhosphorus()
	x.Before = span(0, 300)
	expectBalance(t, "perhaps too much", x, span(0, 200), span(400, 600), api.OK)
	x.Before = span(0, 100)
	expectBalance(t, "all is gone", x, span(0, 0), span(400, 600), api.OK)
	x.Before = span(0, 99)
	expectBalance(t, "too much", x, api.Span{}, api.Span{}, api.ErrNone)
	x.Before = span(400, 400)
	expectBalance(t, "at least nothing", x, span(0, 300), span(400, 600), api.OK)
	x.Before = span(401, 401)
	expectBalance(t, "at least something", x, span(1, 301), span(400, 600), api.OK)
	expectBalance(t, "out of nothing", api.Phosphorus{Out: exact(1)}, api.Span{}, api.Span{}, api.ErrNone)
	expectBalance(t, "out of nothing", api.Phosphorus{Out: span(0, 1)}, api.Span{}, api.Span{}, api.OK)
	expectBalance(t, "berries of nothing", api.Phosphorus{Berries: exact(1), Content: exact(1)}, api.Span{}, api.Span{}, api.ErrNone)
	expectBalance(t, "berries of nothing", api.Phosphorus{Berries: exact(1), Content: span(0, 1)}, api.Span{}, span(0, 1), api.OK)
}

// P13.6, R5: the greatest numbers are exact.
func TestBalanceAtLimits(t *testing.T) {
	x := api.Phosphorus{Before: exact(1 << 40), In: exact(1 << 40), Out: exact(1 << 40), Berries: exact(1 << 30), Content: exact(1000)}
	expectBalance(t, "all", x, exact(1<<40-1000<<30), exact(1000<<30), api.OK)
	x.Out = exact(0)
	expectBalance(t, "all but out", x, exact(2<<40-1000<<30), exact(1000<<30), api.OK)
	x.Berries = exact(0)
	expectBalance(t, "no berries", x, exact(2<<40), exact(0), api.OK)
	x = api.Phosphorus{Out: exact(1 << 40), Berries: span(1, 1<<30), Content: span(1, 1000)}
	expectBalance(t, "nothing came", x, api.Span{}, api.Span{}, api.ErrNone)
	x.In = span(0, 1<<40)
	expectBalance(t, "one is missing", x, api.Span{}, api.Span{}, api.ErrNone)
	x.Before = span(0, 1)
	expectBalance(t, "none is missing", x, exact(0), span(1, 1000<<30), api.OK)
}

// P13.6: as with numbers of any size.
func TestBalanceIsJudge(t *testing.T) {
	some, empty, none := 0, 0, 0
	eachWorld(func(seed uint64, r world) {
		x := r.somePhosphorus()
		left, berries, e := judgeBalance(x)
		expectBalance(t, "judge", x, left, berries, e)
		switch {
		case e == api.ErrNone:
			none++
		case left.Lo == 0:
			empty++
		default:
			some++
		}
		if t.Failed() {
			t.Fatal(seed)
		}
	})
	if min(some, empty, none) < 40 {
		t.Error("too few", some, empty, none)
	}
}

// P13.8, P8: whatever is true, what is left, what the berries took and what went out is what there was and came.
func TestBalanceConserves(t *testing.T) {
	conserved := 0
	eachWorld(func(seed uint64, r world) {
		x := r.somePhosphorus()
		left, berries, e := permit.Balance(x)
		for range 40 {
			taken := r.inside(x.Berries) * r.inside(x.Content)
			rest := r.inside(x.Before) + r.inside(x.In) - r.inside(x.Out) - taken
			if rest < 0 {
				continue
			}
			if e != api.OK || rest < left.Lo || rest > left.Hi || taken < berries.Lo || taken > berries.Hi {
				t.Fatal(seed, x, left, berries, e, rest, taken)
			}
			conserved++
		}
	})
	if conserved < 1000 {
		t.Error("too few", conserved)
	}
}

// P13.6: as going through all that can be true; both ends are true somewhere, unless nothing at least is left.
func TestBalanceOfAllThatIsTrue(t *testing.T) {
	eachSmall(func(seed uint64, r world) {
		x := r.somePhosphorus()
		left, berries, e := permit.Balance(x)
		lefts, taken := span(1<<20, -1<<20), span(1<<20, -1)
		all(x.Berries, func(kilograms int) {
			all(x.Content, func(content int) {
				n := kilograms * content
				taken = span(min(taken.Lo, n), max(taken.Hi, n))
				for _, before := range []int{x.Before.Lo, x.Before.Hi} {
					for _, in := range []int{x.In.Lo, x.In.Hi} {
						for _, out := range []int{x.Out.Lo, x.Out.Hi} {
							rest := before + in - out - n
							lefts = span(min(lefts.Lo, rest), max(lefts.Hi, rest))
						}
					}
				}
			})
		})
		if lefts.Hi < 0 {
			expectBalance(t, "all", x, api.Span{}, api.Span{}, api.ErrNone)
		} else if left != span(max(0, lefts.Lo), lefts.Hi) || berries != taken || e != api.OK {
			t.Error("all", x, left, berries, e, lefts, taken)
		}
		if t.Failed() {
			t.Fatal(seed)
		}
	})
}
