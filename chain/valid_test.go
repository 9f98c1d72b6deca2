package chain_test

import (
	"math"
	"testing"

	"fenberry/api"
	"fenberry/chain"
)

// sound is a chain with water and an hour that are valid; the tests change one thing each.
func sound() (api.Chain, []api.Span, api.Hour) {
	c := api.Chain{
		Ponds: []api.Pond{{Full: 100, Seep: span(5, 9), Spill: 1}, {Full: 100, Spill: 2}, {Full: 100, Spill: river}},
		Gates: []api.Gate{{From: 1, To: 2, Sill: 10, Step: 5, Boards: 2, Most: 50}, {From: 2, To: 0, Most: 3}},
	}
	h := api.Hour{
		Boards: []api.Board{{Gate: 1, Boards: 3}, {Gate: 0, Boards: 0}},
		Comes:  []api.Span{span(0, 5), one(0), span(3, 4)},
		Takes:  []api.Take{{Pond: 2, Amount: 5}, {Pond: 0, Amount: 0}},
	}
	return c, []api.Span{span(0, 100), one(50), span(10, 20)}, h
}

type chainChange struct {
	name string
	do   func(c *api.Chain)
}

func badChains() []chainChange {
	return []chainChange{
		{"no ponds", func(c *api.Chain) { c.Ponds = nil }},
		{"no ponds, no gates", func(c *api.Chain) { *c = api.Chain{} }},
		{"17 ponds", func(c *api.Chain) { c.Ponds = roomy(17).Ponds }},
		{"Full 0", func(c *api.Chain) { c.Ponds[0].Full = 0 }},
		{"Full too great", func(c *api.Chain) { c.Ponds[2].Full = api.MaxWater + 1 }},
		{"Full -1", func(c *api.Chain) { c.Ponds[1].Full = -1 }},
		{"Seep below 0", func(c *api.Chain) { c.Ponds[0].Seep.Lo = -1 }},
		{"Seep too great", func(c *api.Chain) { c.Ponds[0].Seep.Hi = api.MaxSeep + 1 }},
		{"Seep all too great", func(c *api.Chain) { c.Ponds[2].Seep = one(api.MaxSeep + 1) }},
		{"Seep no span", func(c *api.Chain) { c.Ponds[2].Seep = span(10, 9) }},
		{"Spill into itself", func(c *api.Chain) { c.Ponds[1].Spill = 1 }},
		{"Spill upward", func(c *api.Chain) { c.Ponds[1].Spill = 0 }},
		{"Spill beyond", func(c *api.Chain) { c.Ponds[0].Spill = 3 }},
		{"Spill of the last one beyond", func(c *api.Chain) { c.Ponds[2].Spill = 3 }},
		{"Spill -2", func(c *api.Chain) { c.Ponds[0].Spill = -2 }},
		{"33 gates", func(c *api.Chain) { c.Gates = make33Gates() }},
		{"From -1", func(c *api.Chain) { c.Gates[0].From = -1 }},
		{"From beyond", func(c *api.Chain) { c.Gates[1].From = 3 }},
		{"To itself", func(c *api.Chain) { c.Gates[0].To = 1 }},
		{"To beyond", func(c *api.Chain) { c.Gates[1].To = 3 }},
		{"To -2", func(c *api.Chain) { c.Gates[0].To = -2 }},
		{"Sill -1", func(c *api.Chain) { c.Gates[0].Sill = -1 }},
		{"Sill too great", func(c *api.Chain) { c.Gates[1].Sill = api.MaxWater + 1 }},
		{"Step -1", func(c *api.Chain) { c.Gates[0].Step = -1 }},
		{"Step too great", func(c *api.Chain) { c.Gates[1].Step = api.MaxWater + 1 }},
		{"Most -1", func(c *api.Chain) { c.Gates[0].Most = -1 }},
		{"Most too great", func(c *api.Chain) { c.Gates[1].Most = api.MaxWater + 1 }},
		{"Boards -1", func(c *api.Chain) { c.Gates[0].Boards = -1 }},
		{"17 boards", func(c *api.Chain) { c.Gates[1].Boards = 17 }},
	}
}

func goodChains() []chainChange {
	return []chainChange{
		{"as it is", func(c *api.Chain) {}},
		{"no gates", func(c *api.Chain) { c.Gates = nil }},
		{"16 ponds", func(c *api.Chain) { c.Ponds = roomy(16).Ponds }},
		{"32 gates", func(c *api.Chain) { c.Gates = make33Gates()[:32] }},
		{"Full 1", func(c *api.Chain) { c.Ponds[0].Full = 1 }},
		{"Full greatest", func(c *api.Chain) { c.Ponds[0].Full = 1 << 36 }},
		{"Seep greatest", func(c *api.Chain) { c.Ponds[0].Seep = span(0, 1_000_000) }},
		{"Seep of all", func(c *api.Chain) { c.Ponds[0].Seep = one(1_000_000) }},
		{"Spill past a pond", func(c *api.Chain) { c.Ponds[0].Spill = 2 }},
		{"Spill into the river", func(c *api.Chain) { c.Ponds[0].Spill = -1 }},
		{"Gate to the river", func(c *api.Chain) { c.Gates[0].To = -1 }},
		{"Gate upward", func(c *api.Chain) { c.Gates[0].To = 0 }},
		{"Gate with all greatest", func(c *api.Chain) {
			c.Gates[0] = api.Gate{To: 1, Sill: 1 << 36, Step: 1 << 36, Boards: 16, Most: 1 << 36}
		}},
		{"Gate with all 0", func(c *api.Chain) { c.Gates[0] = api.Gate{To: 1} }},
	}
}

func make33Gates() []api.Gate {
	l := make([]api.Gate, 33)
	for i := range l {
		l[i] = api.Gate{From: 0, To: 1}
	}
	return l
}

// P1.1
func TestCheckRefusesChains(t *testing.T) {
	for _, x := range badChains() {
		c, _, _ := sound()
		x.do(&c)
		if e := chain.Check(c); e != api.ErrArg {
			t.Error(x.name, e)
		}
	}
}

// P1.1
func TestCheckAcceptsChains(t *testing.T) {
	for _, x := range goodChains() {
		c, _, _ := sound()
		x.do(&c)
		if e := chain.Check(c); e != api.OK {
			t.Error(x.name, e)
		}
	}
}

type hourChange struct {
	name string
	do   func(w *[]api.Span, h *api.Hour)
}

func badWater() []hourChange {
	return []hourChange{
		{"no water", func(w *[]api.Span, h *api.Hour) { *w = nil }},
		{"too little water", func(w *[]api.Span, h *api.Hour) { *w = (*w)[:2] }},
		{"too much water", func(w *[]api.Span, h *api.Hour) { *w = append(*w, one(0)) }},
		{"water below 0", func(w *[]api.Span, h *api.Hour) { (*w)[0].Lo = -1 }},
		{"water above Full", func(w *[]api.Span, h *api.Hour) { (*w)[0].Hi = 101 }},
		{"water of the last one above Full", func(w *[]api.Span, h *api.Hour) { (*w)[2].Hi = 101 }},
		{"water no span", func(w *[]api.Span, h *api.Hour) { (*w)[2] = span(20, 19) }},
	}
}

func badHours() []hourChange {
	return []hourChange{
		{"33 boards", func(w *[]api.Span, h *api.Hour) { h.Boards = make([]api.Board, 33) }},
		{"Gate -1", func(w *[]api.Span, h *api.Hour) { h.Boards[0].Gate = -1 }},
		{"Gate beyond", func(w *[]api.Span, h *api.Hour) { h.Boards[1].Gate = 2 }},
		{"Boards -1", func(w *[]api.Span, h *api.Hour) { h.Boards[1].Boards = -1 }},
		{"Boards 17", func(w *[]api.Span, h *api.Hour) { h.Boards[0].Boards = 17 }},
		{"no Comes", func(w *[]api.Span, h *api.Hour) { h.Comes = nil }},
		{"too few Comes", func(w *[]api.Span, h *api.Hour) { h.Comes = h.Comes[:2] }},
		{"too many Comes", func(w *[]api.Span, h *api.Hour) { h.Comes = append(h.Comes, one(0)) }},
		{"Comes below 0", func(w *[]api.Span, h *api.Hour) { h.Comes[0].Lo = -1 }},
		{"Comes too great", func(w *[]api.Span, h *api.Hour) { h.Comes[2].Hi = api.MaxWater + 1 }},
		{"Comes no span", func(w *[]api.Span, h *api.Hour) { h.Comes[2] = span(4, 3) }},
		{"33 takes", func(w *[]api.Span, h *api.Hour) { h.Takes = make([]api.Take, 33) }},
		{"Pond -1", func(w *[]api.Span, h *api.Hour) { h.Takes[0].Pond = -1 }},
		{"Pond beyond", func(w *[]api.Span, h *api.Hour) { h.Takes[1].Pond = 3 }},
		{"Amount -1", func(w *[]api.Span, h *api.Hour) { h.Takes[0].Amount = -1 }},
		{"Amount too great", func(w *[]api.Span, h *api.Hour) { h.Takes[1].Amount = api.MaxWater + 1 }},
	}
}

func goodHours() []hourChange {
	return []hourChange{
		{"as it is", func(w *[]api.Span, h *api.Hour) {}},
		{"32 boards", func(w *[]api.Span, h *api.Hour) { h.Boards = make([]api.Board, 32) }},
		{"16 boards in a gate", func(w *[]api.Span, h *api.Hour) { h.Boards[1].Boards = 16 }},
		{"no boards, no takes", func(w *[]api.Span, h *api.Hour) { h.Boards, h.Takes = nil, nil }},
		{"Comes greatest", func(w *[]api.Span, h *api.Hour) { h.Comes[0] = one(1 << 36) }},
		{"32 takes", func(w *[]api.Span, h *api.Hour) { h.Takes = make([]api.Take, 32) }},
		{"Amount greatest", func(w *[]api.Span, h *api.Hour) { h.Takes[0].Amount = 1 << 36 }},
		{"water all of it", func(w *[]api.Span, h *api.Hour) { (*w)[1] = one(100) }},
	}
}

// errorsOf returns the errors of all functions, Check excepted, for one hour; with an error they return nothing else.
func errorsOf(t *testing.T, name string, c api.Chain, w []api.Span, h api.Hour, least []int) []api.Errno {
	l := []api.Hour{h}
	next, boards, f1, e1 := chain.Pass(c, w, h)
	end, f2, e2 := chain.Run(c, w, l)
	hour, pond, e3 := chain.Low(c, w, l, least)
	most, e4 := chain.Most(c, w, l, least, 0)
	is, e5 := chain.Steady(c, w, h)
	if e1 != api.OK && (len(next) > 0 || len(boards) > 0 || f1 != api.Flows{}) {
		t.Error(name, next, boards, f1, e1)
	}
	if e2 != api.OK && (len(end) > 0 || f2 != api.Flows{}) {
		t.Error(name, end, f2, e2)
	}
	if e3 != api.OK && (hour != 0 || pond != 0) || e4 != api.OK && most != 0 || e5 != api.OK && is {
		t.Error(name, hour, pond, e3, most, e4, is, e5)
	}
	return []api.Errno{e1, e2, e3, e4, e5}
}

func allArg(l []api.Errno) bool {
	for _, e := range l {
		if e != api.ErrArg {
			return false
		}
	}
	return true
}

// P1.2 to P1.6: ErrArg comes ahead of ErrRange (least is too short).
func TestArgFirst(t *testing.T) {
	for _, x := range badChains() {
		c, w, h := sound()
		x.do(&c)
		if l := errorsOf(t, x.name, c, w, h, []int{0}); !allArg(l) {
			t.Error(x.name, l)
		}
	}
	for _, x := range append(badWater(), badHours()...) {
		c, w, h := sound()
		x.do(&w, &h)
		if l := errorsOf(t, x.name, c, w, h, []int{0}); !allArg(l) {
			t.Error(x.name, l)
		}
	}
}

// P1.2 to P1.6: what is at its limits is valid.
func TestLimitsAreValid(t *testing.T) {
	for _, x := range goodHours() {
		c, w, h := sound()
		x.do(&w, &h)
		for i, e := range errorsOf(t, x.name, c, w, h, []int{0, 0, 0}) {
			if e != api.OK && !((i == 2 || i == 3) && e == api.ErrNone) {
				t.Error(x.name, i, e)
			}
		}
	}
}

// P1.3 to P1.5: every hour is looked at; water is looked at without hours, too.
func TestArgInAnyHour(t *testing.T) {
	for _, x := range badHours() {
		c, w, good := sound()
		_, _, h := sound()
		x.do(&w, &h)
		l := []api.Hour{good, good, h}
		_, _, e1 := chain.Run(c, w, l)
		_, _, e2 := chain.Low(c, w, l, []int{100, 100, 100})
		_, e3 := chain.Most(c, w, l, []int{0, 0, 0}, 3)
		if e1 != api.ErrArg || e2 != api.ErrArg || e3 != api.ErrArg {
			t.Error(x.name, e1, e2, e3)
		}
	}
	for _, x := range badWater() {
		c, w, h := sound()
		x.do(&w, &h)
		_, _, e1 := chain.Run(c, w, nil)
		_, _, e2 := chain.Low(c, w, nil, []int{0, 0, 0})
		_, e3 := chain.Most(c, w, nil, []int{0, 0, 0}, 0)
		if e1 != api.ErrArg || e2 != api.ErrArg || e3 != api.ErrArg {
			t.Error(x.name, e1, e2, e3)
		}
	}
}

// P1.3 to P1.5: ErrLong comes ahead of ErrArg; 200 hours are not too many.
func TestLongFirst(t *testing.T) {
	c, w, h := example()
	l := make([]api.Hour, 201)
	for i := range l {
		l[i] = h
	}
	for _, x := range []struct {
		name  string
		c     api.Chain
		w     []api.Span
		l     []api.Hour
		least []int
		want  api.Errno
	}{
		{"valid", c, w, l, []int{0, 0}, api.ErrLong},
		{"not valid", api.Chain{}, nil, make([]api.Hour, 201), nil, api.ErrLong},
		{"200 that are not valid", c, w, make([]api.Hour, 200), nil, api.ErrArg},
	} {
		end, f, e1 := chain.Run(x.c, x.w, x.l)
		hour, pond, e2 := chain.Low(x.c, x.w, x.l, x.least)
		most, e3 := chain.Most(x.c, x.w, x.l, x.least, 0)
		if e1 != x.want || e2 != x.want || e3 != x.want || len(end) > 0 || f != (api.Flows{}) || hour != 0 || pond != 0 || most != 0 {
			t.Error(x.name, end, f, e1, hour, pond, e2, most, e3)
		}
	}
	if _, _, e := chain.Run(c, w, l[:200]); e != api.OK {
		t.Error(e)
	}
	if _, _, e := chain.Low(c, w, l[:200], []int{0, 0}); e != api.ErrNone {
		t.Error(e)
	}
	calm := api.Hour{Comes: h.Comes}
	for i := range l {
		l[i] = calm
	}
	if _, e := chain.Most(c, w, l[:200], []int{0, 0}, 1); e != api.OK {
		t.Error(e)
	}
}

// P1.4, P1.5: ErrRange comes ahead of ErrNone, and without hours, too.
func TestRange(t *testing.T) {
	c, w, h := example()
	short := h
	short.Takes = []api.Take{{Pond: 0, Amount: api.MaxWater}}
	for _, least := range [][]int{nil, {0}, {0, 0, 0}, {-1, 0}, {0, -1}, {1001, 0}, {0, 501}, {math.MinInt, 0}, {0, math.MaxInt}} {
		for _, l := range [][]api.Hour{nil, {h}, {h, h}, {short}} {
			if hour, pond, e := chain.Low(c, w, l, least); hour != 0 || pond != 0 || e != api.ErrRange {
				t.Error(least, len(l), hour, pond, e)
			}
			if n, e := chain.Most(c, w, l, least, 0); n != 0 || e != api.ErrRange {
				t.Error(least, len(l), n, e)
			}
		}
	}
	for _, pond := range []int{-1, 2, 16, math.MinInt, math.MaxInt} {
		for _, l := range [][]api.Hour{nil, {h}, {short}} {
			if n, e := chain.Most(c, w, l, []int{0, 0}, pond); n != 0 || e != api.ErrRange {
				t.Error(pond, n, e)
			}
		}
	}
	if _, _, e := chain.Low(c, w, nil, []int{1000, 500}); e != api.ErrNone {
		t.Error(e)
	}
	if n, e := chain.Most(c, w, nil, []int{1000, 500}, 1); n != api.MaxWater || e != api.OK {
		t.Error(n, e)
	}
}

// P1: no argument makes a function panic.
func TestNoPanic(t *testing.T) {
	r := newWorld(1, sizes{ponds: 3, gates: 3, takes: 3, boards: 3, litres: 50, width: 9})
	odd := []int{math.MinInt, -2, -1, 0, 1, 2, 3, 16, 17, api.MaxSeep, api.MaxWater, api.MaxWater + 1, math.MaxInt}
	strange := func(n *int) {
		if r.IntN(12) == 0 {
			*n = odd[r.IntN(len(odd))]
		}
	}
	for range 3000 {
		c := r.chain()
		w, l, least := r.water(c), r.hours(c, r.IntN(4)), make([]int, r.IntN(4))
		for i := range c.Ponds {
			p := &c.Ponds[i]
			for _, n := range []*int{&p.Full, &p.Seep.Lo, &p.Seep.Hi, &p.Spill, &w[i].Lo, &w[i].Hi} {
				strange(n)
			}
		}
		for i := range c.Gates {
			g := &c.Gates[i]
			for _, n := range []*int{&g.From, &g.To, &g.Sill, &g.Step, &g.Boards, &g.Most} {
				strange(n)
			}
		}
		for _, h := range l {
			for i := range h.Takes {
				strange(&h.Takes[i].Pond)
				strange(&h.Takes[i].Amount)
			}
			for i := range h.Boards {
				strange(&h.Boards[i].Gate)
				strange(&h.Boards[i].Boards)
			}
			for i := range h.Comes {
				strange(&h.Comes[i].Hi)
			}
		}
		chain.Check(c)
		chain.Run(c, w, l)
		chain.Low(c, w, l, least)
		chain.Most(c, w, l, least, r.IntN(5)-1)
		for _, h := range append(l, api.Hour{}) {
			chain.Pass(c, w, h)
			chain.Steady(c, w, h)
		}
	}
}
