package chain_test

import (
	"math/big"
	"slices"
	"testing"

	"fenberry/api"
	"fenberry/chain"
)

// P1.2: the chapter's examples.
func TestPassExamples(t *testing.T) {
	c, w, h := example()
	set := h
	set.Boards = []api.Board{{Gate: 0, Boards: 3}}
	for _, x := range []struct {
		h      api.Hour
		next   []api.Span
		boards []int
		f      api.Flows
	}{
		{h, []api.Span{span(445, 600), span(50, 70)}, []int{1}, api.Flows{Came: span(0, 50), Seeped: span(0, 6), River: one(0), Taken: one(200)}},
		{set, []api.Span{span(594, 700), one(0)}, []int{3}, api.Flows{Came: span(0, 50), Seeped: span(0, 7), River: one(0), Taken: span(100, 170)}},
	} {
		next, boards, f, e := chain.Pass(c, w, x.h)
		if !slices.Equal(next, x.next) || !slices.Equal(boards, x.boards) || f != x.f || e != api.OK {
			t.Error(next, boards, f, e)
		}
	}
}

type passCase struct {
	name   string
	c      api.Chain
	w      []api.Span
	h      api.Hour
	next   []api.Span
	boards []int
	f      api.Flows
}

func checkPass(t *testing.T, l []passCase) {
	t.Helper()
	for _, x := range l {
		if x.h.Comes == nil {
			x.h.Comes = make([]api.Span, len(x.c.Ponds))
		}
		next, boards, f, e := chain.Pass(x.c, x.w, x.h)
		if !slices.Equal(next, x.next) || !slices.Equal(boards, x.boards) || f != x.f || e != api.OK {
			t.Error(x.name, next, boards, f, e)
		}
	}
}

// P1.2: the steps of an hour, one by one.
func TestPassSteps(t *testing.T) {
	pair := func(gates ...api.Gate) api.Chain { return api.Chain{Ponds: roomy(2).Ponds, Gates: gates} }
	down := api.Gate{From: 0, To: 1, Sill: 10, Step: 7, Boards: 2, Most: 30}
	checkPass(t, []passCase{
		{"nothing happens", roomy(1), []api.Span{span(3, 9)}, api.Hour{}, []api.Span{span(3, 9)}, nil, api.Flows{}},
		{"a gate below its crest", pair(down), exactly(24, 0), api.Hour{}, exactly(24, 0), []int{2}, api.Flows{}},
		{"a gate above its crest", pair(down), exactly(25, 0), api.Hour{}, exactly(24, 1), []int{2}, api.Flows{}},
		{"a gate that lets its most through", pair(down), exactly(54, 0), api.Hour{}, exactly(24, 30), []int{2}, api.Flows{}},
		{"a gate that would let more through", pair(down), exactly(55, 0), api.Hour{}, exactly(25, 30), []int{2}, api.Flows{}},
		{"a gate behind what comes", pair(down), exactly(24, 0), api.Hour{Comes: exactly(5, 2)}, exactly(24, 7), []int{2}, api.Flows{Came: one(7)}},
		{"boards that are set", pair(down), exactly(24, 0), api.Hour{Boards: []api.Board{{Boards: 1}}}, exactly(17, 7), []int{1}, api.Flows{}},
		{"boards in their order", pair(down), exactly(24, 0), api.Hour{Boards: []api.Board{{Boards: 0}, {Boards: 16}, {Boards: 1}}}, exactly(17, 7), []int{1}, api.Flows{}},
		{"a gate to the river", pair(api.Gate{From: 1, To: river, Sill: 5, Most: 100}), exactly(4, 20), api.Hour{}, exactly(4, 5), []int{0}, api.Flows{River: one(15)}},
		{"a gate upward", pair(api.Gate{From: 1, To: 0, Sill: 5, Most: 10}), exactly(4, 20), api.Hour{}, exactly(14, 10), []int{0}, api.Flows{}},
		{"a gate fed by the one ahead", pair(api.Gate{From: 0, To: 1, Most: 40}, api.Gate{From: 1, To: river, Most: 25}), exactly(30, 0), api.Hour{}, exactly(0, 5), []int{0, 0}, api.Flows{River: one(25)}},
		{"a gate not fed by the one behind", pair(api.Gate{From: 1, To: river, Most: 25}, api.Gate{From: 0, To: 1, Most: 40}), exactly(30, 0), api.Hour{}, exactly(0, 30), []int{0, 0}, api.Flows{}},
		{"two gates of a pond", pair(api.Gate{From: 0, To: 1, Sill: 10, Most: 15}, api.Gate{From: 0, To: river, Sill: 5, Most: 100}), exactly(40, 0), api.Hour{}, exactly(5, 15), []int{0, 0}, api.Flows{River: one(20)}},
		{"boards of several gates", pair(down, api.Gate{From: 1, To: river, Step: 1, Boards: 4}, down), exactly(0, 0), api.Hour{Boards: []api.Board{{Gate: 2, Boards: 9}, {Gate: 0, Boards: 16}}}, exactly(0, 0), []int{16, 4, 9}, api.Flows{}},
		{"a take", roomy(2), exactly(20, 30), api.Hour{Takes: []api.Take{{Pond: 1, Amount: 12}}}, exactly(20, 18), nil, api.Flows{Taken: one(12)}},
		{"a take of more than there is", roomy(1), exactly(20), api.Hour{Takes: []api.Take{{Amount: 21}}}, exactly(0), nil, api.Flows{Taken: one(20)}},
		{"takes in their order", roomy(1), []api.Span{span(20, 35)}, api.Hour{Takes: []api.Take{{Amount: 15}, {Amount: 10}, {Amount: 4}}}, []api.Span{span(0, 6)}, nil, api.Flows{Taken: span(20, 29)}},
		{"a take behind a gate", pair(down), exactly(54, 0), api.Hour{Takes: []api.Take{{Pond: 0, Amount: 54}, {Pond: 1, Amount: 12}}}, exactly(0, 18), []int{2}, api.Flows{Taken: one(36)}},
		{"a take of what comes", roomy(1), exactly(0), api.Hour{Comes: []api.Span{span(3, 9)}, Takes: []api.Take{{Amount: 5}}}, []api.Span{span(0, 4)}, nil, api.Flows{Came: span(3, 9), Taken: span(3, 5)}},
	})
}

// P1.2: seeping is rounded, and comes behind takes and ahead of spilling.
func TestPassSeeps(t *testing.T) {
	leaky := func(full int, seep api.Span) api.Chain {
		return api.Chain{Ponds: []api.Pond{{Full: full, Seep: seep, Spill: river}}}
	}
	rain := func(n int) api.Hour { return api.Hour{Comes: exactly(n)} }
	flows := func(came, lo, hi, riverLo, riverHi int) api.Flows {
		return api.Flows{Came: one(came), Seeped: span(lo, hi), River: span(riverLo, riverHi)}
	}
	checkPass(t, []passCase{
		{"not whole", leaky(999, one(10_000)), exactly(150), rain(0), []api.Span{span(148, 149)}, nil, flows(0, 1, 2, 0, 0)},
		{"whole", leaky(999, one(10_000)), exactly(200), rain(0), exactly(198), nil, flows(0, 2, 2, 0, 0)},
		{"a little", leaky(999, one(1)), exactly(1), rain(0), []api.Span{span(0, 1)}, nil, flows(0, 0, 1, 0, 0)},
		{"almost one", leaky(999, one(999_999)), exactly(1), rain(0), []api.Span{span(0, 1)}, nil, flows(0, 0, 1, 0, 0)},
		{"all", leaky(999, one(1_000_000)), exactly(7), rain(0), exactly(0), nil, flows(0, 7, 7, 0, 0)},
		{"any", leaky(999, span(0, 1_000_000)), []api.Span{span(7, 9)}, rain(0), []api.Span{span(0, 9)}, nil, flows(0, 0, 9, 0, 0)},
		{"of nothing", leaky(999, span(0, 1_000_000)), exactly(0), rain(0), exactly(0), nil, flows(0, 0, 0, 0, 0)},
		{"the least stays and the least seeps", leaky(9999, span(100_000, 300_000)), []api.Span{span(1000, 2000)}, rain(0), []api.Span{span(700, 1800)}, nil, flows(0, 100, 600, 0, 0)},
		{"ahead of spilling", leaky(100, one(500_000)), exactly(100), rain(60), exactly(80), nil, flows(60, 80, 80, 0, 0)},
		{"and spills", leaky(100, span(0, 500_000)), exactly(100), rain(140), exactly(100), nil, flows(140, 0, 120, 20, 140)},
	})
	c := leaky(100, one(100_000))
	h := api.Hour{Comes: exactly(0), Takes: []api.Take{{Amount: 50}}}
	checkPass(t, []passCase{{"behind takes", c, exactly(100), h, exactly(45), nil, api.Flows{Seeped: one(5), Taken: one(50)}}})
	two := api.Chain{Ponds: []api.Pond{{Full: 10, Seep: one(0), Spill: 1}, {Full: 100, Seep: one(500_000), Spill: river}}}
	checkPass(t, []passCase{{"not of what spills in", two, exactly(10, 20), api.Hour{Comes: exactly(30, 0)}, exactly(10, 40), nil, api.Flows{Came: one(30), Seeped: one(10)}}})
}

// P1.2, P2: what is above Full spills in the order of the ponds, from one into the next one.
func TestPassSpills(t *testing.T) {
	ponds := func(spills ...int) api.Chain {
		var c api.Chain
		for i, to := range spills {
			c.Ponds = append(c.Ponds, api.Pond{Full: 10 * (i + 1), Spill: to})
		}
		return c
	}
	checkPass(t, []passCase{
		{"not when just full", ponds(1, river), exactly(10, 0), api.Hour{}, exactly(10, 0), nil, api.Flows{}},
		{"through all ponds", ponds(1, 2, river), exactly(10, 20, 30), api.Hour{Comes: exactly(7, 0, 0)}, exactly(10, 20, 30), nil, api.Flows{Came: one(7), River: one(7)}},
		{"past a pond", ponds(2, river, river), exactly(10, 3, 28), api.Hour{Comes: exactly(7, 0, 0)}, exactly(10, 3, 30), nil, api.Flows{Came: one(7), River: one(5)}},
		{"into the river at once", ponds(river, river), exactly(10, 3), api.Hour{Comes: exactly(7, 0)}, exactly(10, 3), nil, api.Flows{Came: one(7), River: one(7)}},
		{"perhaps", ponds(1, river), []api.Span{span(0, 10), span(5, 18)}, api.Hour{Comes: []api.Span{span(4, 9), span(0, 2)}}, []api.Span{span(4, 10), span(5, 20)}, nil, api.Flows{Came: span(4, 11), River: span(0, 9)}},
		{"not what is taken", ponds(river), exactly(10), api.Hour{Comes: exactly(7), Takes: []api.Take{{Amount: 7}}}, exactly(10), nil, api.Flows{Came: one(7), Taken: one(7)}},
	})
	gate := ponds(river, river)
	gate.Gates = []api.Gate{{From: 0, To: 1, Sill: 12, Most: 100}}
	checkPass(t, []passCase{{"not what went through a gate", gate, exactly(10, 0), api.Hour{Comes: exactly(7, 0)}, exactly(10, 5), []int{0}, api.Flows{Came: one(7), River: one(2)}}})
}

// R5: numbers at their limits are exact.
func TestPassGreatest(t *testing.T) {
	c := roomy(16)
	w, h := make([]api.Span, 16), api.Hour{Comes: make([]api.Span, 16)}
	for i := range w {
		w[i], h.Comes[i] = one(api.MaxWater), one(api.MaxWater)
		if i < 15 {
			g := api.Gate{From: i, To: 15, Most: api.MaxWater}
			c.Gates = append(c.Gates, g, g)
		}
	}
	c.Ponds[15].Seep = span(999_999, 999_999)
	next, _, f, e := chain.Pass(c, w, h)
	all := 32 * api.MaxWater
	seeped := new(big.Int).Mul(big.NewInt(int64(all)), big.NewInt(999_999))
	lo := int(seeped.Div(seeped, big.NewInt(1_000_000)).Int64())
	left := span(all-lo-1, all-lo)
	want := api.Flows{Came: one(16 * api.MaxWater), Seeped: span(lo, lo+1)}
	if next[14] != one(0) || next[15] != left || f != want || e != api.OK {
		t.Error(next, f, e)
	}
	dry := api.Chain{Ponds: roomy(1).Ponds, Gates: []api.Gate{{To: river, Sill: api.MaxWater, Step: api.MaxWater, Boards: 16, Most: api.MaxWater}}}
	if next, _, f, e := chain.Pass(dry, w[:1], api.Hour{Comes: h.Comes[:1]}); next[0] != one(api.MaxWater) || f.River != one(api.MaxWater) || e != api.OK {
		t.Error(next, f, e)
	}
}

// extent widens a span by a number; one without numbers yet is not one.
func extent(s *api.Span, n int) {
	if s.Lo > s.Hi {
		*s = one(n)
	}
	*s = span(min(s.Lo, n), max(s.Hi, n))
}

// reached returns the spans of all that can be behind an hour, and of its flows, by trying all.
func reached(c api.Chain, w []api.Span, h api.Hour) (next, flows []api.Span) {
	next, flows = make([]api.Span, len(w)), make([]api.Span, 4)
	for _, l := range [][]api.Span{next, flows} {
		for i := range l {
			l[i] = span(1, 0)
		}
	}
	eachOf(append(slices.Clone(w), h.Comes...), func(n []int) {
		x := &real{gates: slices.Clone(c.Gates), water: n[:len(w)]}
		x.begin(h, n[len(w):])
		eachOf(x.canSeep(c), func(seeps []int) {
			y := x.clone()
			y.finish(c, seeps)
			for i, v := range y.water {
				extent(&next[i], v)
			}
			for i, v := range y.flows() {
				extent(&flows[i], v)
			}
		})
	})
	return next, flows
}

// P1.2, P3: what is known is all that can be, and nothing else.
func TestPassIsTight(t *testing.T) {
	for seed := range uint64(1500) {
		r := newWorld(seed, sizes{ponds: 3, gates: 4, takes: 3, boards: 2, litres: 9, width: 2})
		c := r.chain()
		w, h := r.water(c), r.hour(c)
		next, flows := reached(c, w, h)
		got, _, f, e := chain.Pass(c, w, h)
		if !slices.Equal(got, next) || !slices.Equal(listOf(f), flows) || e != api.OK {
			t.Fatal(seed, c, w, h, got, next, f, flows, e)
		}
	}
}

// R2, R4, R6: arguments stay as they are, results share no memory, and the same comes again.
func TestMemory(t *testing.T) {
	for seed := range uint64(200) {
		r := newWorld(seed, sizes{ponds: 4, gates: 5, takes: 5, boards: 5, litres: 90, width: 9})
		c := r.chain()
		w, l := r.water(c), r.hours(c, 3)
		for i, h := range l { // room behind the lists, so that what is appended to them would show
			l[i].Takes = append(make([]api.Take, 0, 40), h.Takes...)
		}
		c2, w2, l2 := cloneChain(c), slices.Clone(w), cloneHours(l)
		least := make([]int, len(c.Ponds))
		next, boards, f1, _ := chain.Pass(c, w, l[0])
		end, f2, _ := chain.Run(c, w, l)
		same, _, _ := chain.Run(c, w, nil)
		chain.Low(c, w, l, least)
		chain.Most(c, w, l, least, 0)
		chain.Steady(c, w, l[0])
		next2, boards2, end2 := slices.Clone(next), slices.Clone(boards), slices.Clone(end)
		for i := range next {
			next[i], end[i], same[i] = span(-7, -7), span(-8, -8), span(-9, -9)
		}
		for i := range boards {
			boards[i] = -7
		}
		if !slices.Equal(c.Ponds, c2.Ponds) || !slices.Equal(c.Gates, c2.Gates) || !slices.Equal(w, w2) || !slices.EqualFunc(l, l2, sameHour) || sum(least) != 0 {
			t.Fatal(seed, "an argument has changed")
		}
		for _, h := range l {
			for _, x := range h.Takes[len(h.Takes):cap(h.Takes)] {
				if x != (api.Take{}) {
					t.Fatal(seed, "memory behind an argument has changed")
				}
			}
		}
		next, boards, f3, _ := chain.Pass(c, w, l[0])
		end, f4, _ := chain.Run(c, w, l)
		if !slices.Equal(next, next2) || !slices.Equal(boards, boards2) || !slices.Equal(end, end2) || f1 != f3 || f2 != f4 {
			t.Fatal(seed, "not the same again")
		}
	}
}

// P11: boards of different gates, and takes out of different ponds, may come in any order.
func TestOrderOfOthers(t *testing.T) {
	for seed := range uint64(100) {
		r := newWorld(seed, sizes{ponds: 5, gates: 6, litres: 90, width: 9})
		c := r.chain()
		w, h := r.water(c), r.hour(c)
		for i := range c.Gates {
			h.Boards = append(h.Boards, api.Board{Gate: i, Boards: r.IntN(4)})
		}
		for i := range c.Ponds {
			h.Takes = append(h.Takes, api.Take{Pond: i, Amount: r.IntN(90)})
		}
		next, boards, f, _ := chain.Pass(c, w, h)
		slices.Reverse(h.Boards)
		slices.Reverse(h.Takes)
		next2, boards2, f2, e := chain.Pass(c, w, h)
		if !slices.Equal(next, next2) || !slices.Equal(boards, boards2) || f != f2 || e != api.OK {
			t.Fatal(seed, next, next2, boards, boards2, f, f2, e)
		}
	}
}
