package drum_test

import (
	"math"
	"math/rand/v2"
	"slices"
	"testing"

	"fenberry/api"
	"fenberry/drum"
)

func deliver(vessel, bed, amount int) api.DrumEvent {
	return api.DrumEvent{Kind: api.Deliver, Vessel: vessel, Bed: bed, Amount: amount}
}

func pour(vessel, other, amount int) api.DrumEvent {
	return api.DrumEvent{Kind: api.Pour, Vessel: vessel, Other: other, Amount: amount}
}

func dump(vessel, amount int) api.DrumEvent {
	return api.DrumEvent{Kind: api.Dump, Vessel: vessel, Amount: amount}
}

func seal(vessel int) api.DrumEvent { return api.DrumEvent{Kind: api.Seal, Vessel: vessel} }

func span(lo, hi int) api.Span { return api.Span{Lo: lo, Hi: hi} }

func origin(bed, lo, hi int) api.Origin { return api.Origin{Bed: bed, Amount: span(lo, hi)} }

// exampleEvents returns the events of the chapter's examples.
func exampleEvents() []api.DrumEvent {
	return []api.DrumEvent{deliver(0, 5, 100), deliver(0, 7, 60), pour(0, 1, 120), deliver(1, 9, 30), pour(1, 2, 50), seal(2), dump(1, 10)}
}

// partedEvents returns the events of the chapter's last example: what is parted comes together again.
func partedEvents() []api.DrumEvent {
	return []api.DrumEvent{deliver(0, 5, 10), deliver(0, 7, 10), pour(0, 1, 10), pour(0, 2, 10), pour(1, 2, 10)}
}

// with returns all events, as new memory.
func with(l []api.DrumEvent, more ...api.DrumEvent) []api.DrumEvent { return slices.Concat(l, more) }

// vessels returns all vessels, of which the first ones have these amounts.
func vessels(amounts ...int) []api.Vessel {
	all := make([]api.Vessel, 16)
	for i, amount := range amounts {
		all[i].Amount = amount
	}
	return all
}

// strangeNumbers are beyond limits, or at them.
func strangeNumbers() []int {
	return []int{math.MinInt, math.MinInt + 1, -2, -1, 0, 1, 2, 3, 4, 5, 15, 16, 17, 64, 65, 1022, 1023, 1024, 1<<40 - 1, 1 << 40, 1<<40 + 1, math.MaxInt - 1, math.MaxInt}
}

func expectPlay(t *testing.T, name string, l []api.DrumEvent, want []api.Vessel, wantIndex int, wantError api.Errno) {
	t.Helper()
	if v, n, e := drum.Play(l); !slices.Equal(v, want) || n != wantIndex || e != wantError {
		t.Error(name, l, v, n, e, "instead of", want, wantIndex, wantError)
	}
}

func expectTrace(t *testing.T, name string, l []api.DrumEvent, vessel int, want []api.Origin, wantError api.Errno) {
	t.Helper()
	if o, e := drum.Trace(l, vessel); !slices.Equal(o, want) || e != wantError {
		t.Error(name, l, vessel, o, e, "instead of", want, wantError)
	}
}

func expectRecall(t *testing.T, name string, l []api.DrumEvent, bed int, wantCan, wantMust []int, wantError api.Errno) {
	t.Helper()
	if can, must, e := drum.Recall(l, bed); !slices.Equal(can, wantCan) || !slices.Equal(must, wantMust) || e != wantError {
		t.Error(name, l, bed, can, must, e, "instead of", wantCan, wantMust, wantError)
	}
}

func expectLost(t *testing.T, name string, l []api.DrumEvent, bed int, want api.Span, wantError api.Errno) {
	t.Helper()
	if s, e := drum.Lost(l, bed); s != want || e != wantError {
		t.Error(name, l, bed, s, e, "instead of", want, wantError)
	}
}

// told returns what Trace says of a bed in a vessel; 0 to 0 if it does not name the bed.
func told(l []api.DrumEvent, vessel, bed int) api.Span {
	origins, _ := drum.Trace(l, vessel)
	for _, o := range origins {
		if o.Bed == bed {
			return o.Amount
		}
	}
	return api.Span{}
}

// waste is the place of what was thrown away, behind all vessels.
const waste = 16

// mix is how much of each bed is in each vessel, and thrown away.
type mix [17]map[int]int

func newMix() mix {
	var m mix
	for i := range m {
		m[i] = map[int]int{}
	}
	return m
}

// move brings something of each bed from a vessel to another place.
func (m mix) move(from, to int, parts map[int]int) {
	for bed, n := range parts {
		m[from][bed] -= n
		m[to][bed] += n
	}
}

// live lets valid events happen, of which pick says what part of a mixed vessel is taken; it returns what is where then.
func live(l []api.DrumEvent, pick func(vessel map[int]int, amount int) map[int]int) mix {
	m := newMix()
	for _, v := range l {
		switch v.Kind {
		case api.Deliver:
			m[v.Vessel][v.Bed] += v.Amount
		case api.Pour:
			m.move(v.Vessel, v.Other, pick(m[v.Vessel], v.Amount))
		case api.Dump:
			m.move(v.Vessel, waste, pick(m[v.Vessel], v.Amount))
		}
	}
	return m
}

// judgePlay plays events as the chapter's table says it.
func judgePlay(l []api.DrumEvent) ([]api.Vessel, int, api.Errno) {
	if len(l) > 64 {
		return nil, 0, api.ErrLong
	}
	all := vessels()
	for i, v := range l {
		if e := judgeEvent(all, v); e != api.OK {
			return nil, i, e
		}
		switch v.Kind {
		case api.Deliver:
			all[v.Vessel].Amount += v.Amount
		case api.Pour:
			all[v.Vessel].Amount -= v.Amount
			all[v.Other].Amount += v.Amount
		case api.Dump:
			all[v.Vessel].Amount -= v.Amount
		case api.Seal:
			all[v.Vessel].Sealed = true
		}
	}
	return all, len(l), api.OK
}

// judgeEvent returns the first error of an event.
func judgeEvent(all []api.Vessel, v api.DrumEvent) api.Errno {
	within := func(n, least, most int) bool { return n >= least && n <= most }
	usesAmount := v.Kind != api.Seal
	isPour, isDelivery := v.Kind == api.Pour, v.Kind == api.Deliver
	if !within(v.Kind, 0, 3) || !within(v.Vessel, 0, 15) || isPour && !within(v.Other, 0, 15) || isDelivery && !within(v.Bed, 0, 1023) || usesAmount && !within(v.Amount, 1, 1<<40) {
		return api.ErrArg
	}
	var other api.Vessel
	if isPour {
		other = all[v.Other]
	}
	switch vessel := all[v.Vessel]; {
	case isPour && v.Vessel == v.Other:
		return api.ErrTwice
	case vessel.Sealed || other.Sealed:
		return api.ErrState
	case (isPour || v.Kind == api.Dump) && v.Amount > vessel.Amount:
		return api.ErrShort
	case isDelivery && vessel.Amount+v.Amount > 1<<40 || isPour && other.Amount+v.Amount > 1<<40:
		return api.ErrLimit
	}
	return api.OK
}

// sizes bounds what is made: the vessels and the beds that are used, how many events there are, how much is delivered at once, and how often something may be taken out of vessels.
type sizes struct {
	vessels, beds  []int
	events, amount int
	takings        int
}

// few has so small numbers that all courses can be gone through.
func few() sizes {
	return sizes{vessels: []int{0, 7, 15}, beds: []int{0, 5, 1023}, events: 10, amount: 4, takings: 10}
}

// plain has numbers as they are in an autumn.
func plain() sizes {
	return sizes{vessels: numbers(8), beds: numbers(12), events: 40, amount: 5_000_000, takings: 40}
}

// great has numbers up to the limits.
func great() sizes {
	return sizes{vessels: numbers(16), beds: numbers(1024), events: 64, amount: api.MaxAmount, takings: 64}
}

// cut has so few places that all sets of them can be gone through.
func cut() sizes {
	return sizes{vessels: []int{1, 2, 9, 14}, beds: []int{3, 400, 401, 1000}, events: 14, amount: api.MaxAmount / 2, takings: 6}
}

// numbers returns the numbers from 0 on.
func numbers(n int) []int {
	l := make([]int, n)
	for i := range l {
		l[i] = i
	}
	return l
}

// world makes valid events; the same ones for the same seed.
type world struct {
	*rand.Rand
	sizes
}

func newWorld(seed uint64, s sizes) world { return world{rand.New(rand.NewPCG(seed, 43)), s} }

func (r world) between(lo, hi int) int { return lo + r.IntN(hi-lo+1) }

func (r world) of(l []int) int { return l[r.IntN(len(l))] }

// someEvent returns an event that can be behind others, or one that cannot.
func (r world) someEvent(all []api.Vessel) api.DrumEvent {
	vessel, other := r.of(r.vessels), r.of(r.vessels)
	amount := max(1, all[vessel].Amount)
	if r.IntN(4) > 0 {
		amount = r.between(1, amount)
	}
	switch n := r.IntN(40); {
	case n < 14:
		return deliver(vessel, r.of(r.beds), r.between(1, r.amount))
	case n < 32:
		return pour(vessel, other, amount)
	case n < 39:
		return dump(vessel, amount)
	}
	return seal(vessel)
}

// someEvents returns events that can be.
func (r world) someEvents() []api.DrumEvent {
	var l []api.DrumEvent
	takings := 0
	all := vessels()
	for range r.between(0, 4*r.events) {
		v := r.someEvent(all)
		isTaking := v.Kind == api.Pour || v.Kind == api.Dump
		if len(l) == r.events || isTaking && takings == r.takings {
			continue
		}
		if after, _, e := judgePlay(with(l, v)); e == api.OK {
			l, all = with(l, v), after
			if isTaking {
				takings++
			}
		}
	}
	return l
}

// anyPart takes any part of a vessel: of the beds in any order either all there is, or any part of it.
func (r world) anyPart(vessel map[int]int, amount int) map[int]int {
	var beds []int
	rest := 0
	for bed, n := range vessel {
		beds = append(beds, bed)
		rest += n
	}
	slices.Sort(beds)
	r.Shuffle(len(beds), func(i, j int) { beds[i], beds[j] = beds[j], beds[i] })
	wild := r.IntN(2) == 0
	parts := map[int]int{}
	for _, bed := range beds {
		rest -= vessel[bed]
		parts[bed] = min(amount, vessel[bed])
		if wild {
			parts[bed] = r.between(max(0, amount-rest), parts[bed])
		}
		amount -= parts[bed]
	}
	return parts
}

// taking takes as much as it can of a bed, or of others, and the rest by the number of the bed.
func taking(beds []int, bed int, isFirst bool) func(vessel map[int]int, amount int) map[int]int {
	return func(vessel map[int]int, amount int) map[int]int {
		order := slices.DeleteFunc(slices.Clone(beds), func(b int) bool { return b == bed })
		if isFirst {
			order = slices.Insert(order, 0, bed)
		} else {
			order = append(order, bed)
		}
		parts := map[int]int{}
		for _, b := range order {
			parts[b] = min(amount, vessel[b])
			amount -= parts[b]
		}
		return parts
	}
}

// each calls do with worlds of some sizes.
func each(worlds uint64, all []sizes, do func(seed uint64, r world)) {
	for seed := range worlds {
		for _, s := range all {
			do(seed, newWorld(seed, s))
		}
	}
}

// eachWorld calls do with worlds of each size: fewer of those with many events.
func eachWorld(do func(seed uint64, r world)) {
	each(120, []sizes{few(), cut()}, do)
	each(15, []sizes{plain(), great()}, do)
}
