package chain_test

import (
	"math/rand/v2"
	"slices"

	"fenberry/api"
	"fenberry/chain"
)

const river = -1

func one(n int) api.Span { return api.Span{Lo: n, Hi: n} }

func span(lo, hi int) api.Span { return api.Span{Lo: lo, Hi: hi} }

// example returns the chain, the water and the hour of the chapter's examples.
func example() (api.Chain, []api.Span, api.Hour) {
	c := api.Chain{
		Ponds: []api.Pond{{Full: 1000, Seep: span(0, 10000), Spill: 1}, {Full: 500, Spill: river}},
		Gates: []api.Gate{{From: 0, To: 1, Sill: 100, Step: 200, Boards: 1, Most: 150}},
	}
	h := api.Hour{Comes: []api.Span{span(0, 50), one(0)}, Takes: []api.Take{{Pond: 1, Amount: 200}}}
	return c, []api.Span{span(600, 700), span(100, 120)}, h
}

// roomy returns a valid chain with so many ponds, without gates, that neither seep nor are full.
func roomy(ponds int) api.Chain {
	c := api.Chain{Ponds: make([]api.Pond, ponds)}
	for i := range c.Ponds {
		c.Ponds[i] = api.Pond{Full: api.MaxWater, Spill: river}
	}
	return c
}

func exactly(numbers ...int) []api.Span {
	var l []api.Span
	for _, n := range numbers {
		l = append(l, one(n))
	}
	return l
}

func cloneChain(c api.Chain) api.Chain {
	return api.Chain{Ponds: slices.Clone(c.Ponds), Gates: slices.Clone(c.Gates)}
}

func cloneHour(h api.Hour) api.Hour {
	return api.Hour{Boards: slices.Clone(h.Boards), Comes: slices.Clone(h.Comes), Takes: slices.Clone(h.Takes)}
}

func cloneHours(l []api.Hour) []api.Hour {
	var m []api.Hour
	for _, h := range l {
		m = append(m, cloneHour(h))
	}
	return m
}

func sameHour(a, b api.Hour) bool {
	return slices.Equal(a.Boards, b.Boards) && slices.Equal(a.Comes, b.Comes) && slices.Equal(a.Takes, b.Takes)
}

func isIn(n int, s api.Span) bool { return s.Lo <= n && n <= s.Hi }

func isInside(a, b api.Span) bool { return b.Lo <= a.Lo && a.Hi <= b.Hi }

// listOf returns the four flows, to go through all of them.
func listOf(f api.Flows) []api.Span { return []api.Span{f.Came, f.Seeped, f.River, f.Taken} }

func lows(l []api.Span) []int {
	var m []int
	for _, s := range l {
		m = append(m, s.Lo)
	}
	return m
}

func sum(l []int) int {
	n := 0
	for _, x := range l {
		n += x
	}
	return n
}

// sizes bounds what worlds are made of.
type sizes struct{ ponds, gates, takes, boards, litres, width int }

// world makes valid chains, water and hours; the same ones for the same seed.
type world struct {
	*rand.Rand
	sizes
}

func newWorld(seed uint64, s sizes) world {
	return world{rand.New(rand.NewPCG(seed, 7)), s}
}

func (r world) spanWithin(most int) api.Span {
	lo := r.IntN(most + 1)
	return span(lo, min(most, lo+r.IntN(r.width+1)))
}

func (r world) seep() api.Span {
	switch r.IntN(4) {
	case 0:
		return one(0)
	case 1:
		return span(0, r.IntN(api.MaxSeep+1))
	case 2:
		return one(r.IntN(api.MaxSeep + 1))
	}
	lo := r.IntN(api.MaxSeep + 1)
	return span(lo, lo+r.IntN(api.MaxSeep+1-lo))
}

func (r world) chain() api.Chain {
	n := 1 + r.IntN(r.ponds)
	var c api.Chain
	for i := range n {
		p := api.Pond{Full: 1 + r.IntN(r.litres), Seep: r.seep(), Spill: river}
		if i+1 < n && r.IntN(4) > 0 {
			p.Spill = i + 1 + r.IntN(n-i-1)
		}
		c.Ponds = append(c.Ponds, p)
	}
	for range r.IntN(r.gates + 1) {
		g := api.Gate{From: r.IntN(n), To: r.IntN(n+1) - 1, Sill: r.IntN(r.litres), Step: r.IntN(1 + r.litres/2), Boards: r.IntN(3), Most: r.IntN(r.litres + 1)}
		if g.To == g.From {
			g.To = river
		}
		c.Gates = append(c.Gates, g)
	}
	return c
}

func (r world) water(c api.Chain) []api.Span {
	var w []api.Span
	for _, p := range c.Ponds {
		w = append(w, r.spanWithin(p.Full))
	}
	return w
}

func (r world) hour(c api.Chain) api.Hour {
	var h api.Hour
	if len(c.Gates) > 0 {
		for range r.IntN(r.boards + 1) {
			h.Boards = append(h.Boards, api.Board{Gate: r.IntN(len(c.Gates)), Boards: r.IntN(4)})
		}
	}
	for range c.Ponds {
		h.Comes = append(h.Comes, r.spanWithin(r.litres))
	}
	for range r.IntN(r.takes + 1) {
		h.Takes = append(h.Takes, api.Take{Pond: r.IntN(len(c.Ponds)), Amount: r.IntN(1 + r.litres/2)})
	}
	return h
}

func (r world) hours(c api.Chain, n int) []api.Hour {
	var l []api.Hour
	for range n {
		l = append(l, r.hour(c))
	}
	return l
}

// real is water whose litres are known: what the spans are about.
type real struct {
	gates                      []api.Gate
	water                      []int
	came, seeped, river, taken int
}

func (x *real) move(from, to, n int) {
	x.water[from] -= n
	if to == river {
		x.river += n
		return
	}
	x.water[to] += n
}

// begin does what the chapter lists for an hour, until water seeps.
func (x *real) begin(h api.Hour, comes []int) {
	for _, b := range h.Boards {
		x.gates[b.Gate].Boards = b.Boards
	}
	for i, n := range comes {
		x.water[i] += n
		x.came += n
	}
	for _, g := range x.gates {
		if above := x.water[g.From] - g.Sill - g.Boards*g.Step; above > 0 {
			x.move(g.From, g.To, min(above, g.Most))
		}
	}
	for _, t := range h.Takes {
		n := min(t.Amount, x.water[t.Pond])
		x.water[t.Pond] -= n
		x.taken += n
	}
}

// canSeep returns how much of each pond's water may seep away.
func (x *real) canSeep(c api.Chain) []api.Span {
	var l []api.Span
	for i, p := range c.Ponds {
		lo, hi := x.water[i]*p.Seep.Lo, x.water[i]*p.Seep.Hi
		s := span(lo/1_000_000, hi/1_000_000)
		if hi%1_000_000 > 0 {
			s.Hi++
		}
		l = append(l, s)
	}
	return l
}

// finish lets water seep away, and spill.
func (x *real) finish(c api.Chain, seeps []int) {
	for i, n := range seeps {
		x.water[i] -= n
		x.seeped += n
	}
	for i, p := range c.Ponds {
		if x.water[i] > p.Full {
			x.move(i, p.Spill, x.water[i]-p.Full)
		}
	}
}

func (x *real) clone() *real {
	y := *x
	y.gates, y.water = slices.Clone(x.gates), slices.Clone(x.water)
	return &y
}

func (x *real) flows() []int { return []int{x.came, x.seeped, x.river, x.taken} }

// eachOf calls do with every list that has a number of each span.
func eachOf(l []api.Span, do func([]int)) {
	numbers := make([]int, len(l))
	var set func(i int)
	set = func(i int) {
		if i == len(l) {
			do(slices.Clone(numbers))
			return
		}
		for n := l[i].Lo; n <= l[i].Hi; n++ {
			numbers[i] = n
			set(i + 1)
		}
	}
	set(0)
}

// passAll lets hours pass with Pass, one by one.
func passAll(c api.Chain, w []api.Span, l []api.Hour) ([]api.Span, []api.Span, api.Errno) {
	c = cloneChain(c)
	flows := make([]api.Span, 4)
	for _, h := range l {
		next, boards, f, e := chain.Pass(c, w, h)
		if e != api.OK {
			return nil, nil, e
		}
		for i, n := range boards {
			c.Gates[i].Boards = n
		}
		for i, s := range listOf(f) {
			flows[i] = span(flows[i].Lo+s.Lo, flows[i].Hi+s.Hi)
		}
		w = next
	}
	return w, flows, api.OK
}
