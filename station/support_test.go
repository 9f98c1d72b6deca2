package station_test

import (
	"math"
	"math/big"
	"math/rand/v2"
	"slices"
	"testing"

	"fenberry/api"
	"fenberry/station"
)

func span(lo, hi int) api.Span { return api.Span{Lo: lo, Hi: hi} }

func one(n int) api.Span { return span(n, n) }

// exampleTrucks returns the trucks of the chapter's examples.
func exampleTrucks() []api.Truck {
	return []api.Truck{
		{Arrive: span(100, 110), Work: span(20, 30)},
		{Arrive: span(90, 105), Work: one(10)},
		{Arrive: one(112), Work: span(15, 40)},
	}
}

// exampleSlip returns the slip of the chapter's examples.
func exampleSlip() api.Slip {
	return api.Slip{Gross: 10000, Tare: 3000, Samples: []api.Sample{
		{Weight: 100, Trash: 5, Rot: 3, Colour: 40, Firm: 700},
		{Weight: 50, Rot: 1, Colour: 70, Firm: 400},
	}}
}

// exampleBerries returns the berries of the chapter's examples.
func exampleBerries() [][]int { return [][]int{{30, 100}, {90, 90, 90, 120}, {20}} }

// slip returns one of so many grams, with samples.
func slip(net int, samples ...api.Sample) api.Slip { return api.Slip{Gross: net, Samples: samples} }

func cloneSlip(s api.Slip) api.Slip {
	s.Samples = slices.Clone(s.Samples)
	return s
}

func cloneBerries(berries [][]int) [][]int {
	l := slices.Clone(berries)
	for i := range l {
		l[i] = slices.Clone(l[i])
	}
	return l
}

// strangeNumbers are beyond limits, or at them.
func strangeNumbers() []int {
	return []int{math.MinInt, math.MinInt + 1, -2, -1, 0, 1, 2, 7, 8, 9, 255, 256, 1000, 1001, 1023, 1024, 1440, 1441, 4096, 4097, 1 << 14, 1<<14 + 1, 1 << 20, 1<<20 + 1, 1 << 27, 1<<27 + 1, math.MaxInt - 1, math.MaxInt}
}

func expectQueue(t *testing.T, name string, l []api.Truck, bays int, want []api.Visit, wantError api.Errno) {
	t.Helper()
	if v, e := station.Queue(l, bays); !slices.Equal(v, want) || e != wantError {
		t.Error(name, l, bays, v, e, "instead of", want, wantError)
	}
}

func expectBays(t *testing.T, name string, l []api.Truck, most, want int, wantError api.Errno) {
	t.Helper()
	if n, e := station.Bays(l, most); n != want || e != wantError {
		t.Error(name, l, most, n, e, "instead of", want, wantError)
	}
}

func expectWeigh(t *testing.T, name string, s api.Slip, want api.Load, wantError api.Errno) {
	t.Helper()
	if l, e := station.Weigh(s); l != want || e != wantError {
		t.Error(name, s, l, e, "instead of", want, wantError)
	}
}

func expectBounce(t *testing.T, name string, berries [][]int, board, tries, want int, wantError api.Errno) {
	t.Helper()
	if n, e := station.Bounce(berries, board, tries); n != want || e != wantError {
		t.Error(name, berries, board, tries, n, e, "instead of", want, wantError)
	}
}

// fact is what is true of a truck.
type fact struct{ arrive, work, begin, end int }

// live unloads trucks of which it is true when they arrive and for how long they are unloaded: each one in the first minute in which it has arrived, the truck ahead of it has begun, and a bay is free.
func live(trucks []fact, bays int) []fact {
	done := slices.Clone(trucks)
	for i, f := range done {
		minutes := []int{f.arrive}
		for _, ahead := range done[:i] {
			minutes = append(minutes, ahead.begin, ahead.end)
		}
		slices.Sort(minutes)
		for _, minute := range minutes {
			if minute >= f.arrive && (i == 0 || minute >= done[i-1].begin) && busy(done[:i], minute) < bays {
				done[i].begin, done[i].end = minute, minute+f.work
				break
			}
		}
	}
	return done
}

// busy returns how many bays have a truck in a minute. All of the trucks have begun.
func busy(trucks []fact, minute int) int {
	n := 0
	for _, f := range trucks {
		if f.end > minute {
			n++
		}
	}
	return n
}

// play unloads the same trucks minute by minute: bays that are free are given to trucks that have arrived, in their order.
func play(trucks []fact, bays int) []fact {
	done := slices.Clone(trucks)
	free := make([]int, bays)
	next := 0
	for minute := 0; next < len(done); minute++ {
		for bay := 0; bay < bays && next < len(done); bay++ {
			for next < len(done) && free[bay] <= minute && done[next].arrive <= minute {
				done[next].begin, done[next].end = minute, minute+done[next].work
				free[bay] = done[next].end
				next++
			}
		}
	}
	return done
}

// eachTruth calls do with all that can be true of trucks.
func eachTruth(l []api.Truck, do func(trucks []fact)) {
	trucks := make([]fact, len(l))
	var from func(i int)
	from = func(i int) {
		if i == len(l) {
			do(trucks)
			return
		}
		for arrive := l[i].Arrive.Lo; arrive <= l[i].Arrive.Hi; arrive++ {
			for work := l[i].Work.Lo; work <= l[i].Work.Hi; work++ {
				trucks[i] = fact{arrive: arrive, work: work}
				from(i + 1)
			}
		}
	}
	from(0)
}

func widened(s api.Span, n int) api.Span { return span(min(s.Lo, n), max(s.Hi, n)) }

// judgeQueue goes through all that can be true.
func judgeQueue(l []api.Truck, bays int) []api.Visit {
	nothing := span(math.MaxInt, math.MinInt)
	all := slices.Repeat([]api.Visit{{Begin: nothing, End: nothing, Wait: nothing}}, len(l))
	eachTruth(l, func(trucks []fact) {
		for i, f := range play(trucks, bays) {
			v := &all[i]
			v.Begin, v.End, v.Wait = widened(v.Begin, f.begin), widened(v.End, f.end), widened(v.Wait, f.begin-f.arrive)
		}
	})
	return all
}

// judgeBays tries all numbers of bays; queue returns what is known of the trucks.
func judgeBays(l []api.Truck, most int, queue func(l []api.Truck, bays int) []api.Visit) (int, api.Errno) {
	for bays := 1; bays <= 8; bays++ {
		if !slices.ContainsFunc(queue(l, bays), func(v api.Visit) bool { return v.Wait.Hi > most }) {
			return bays, api.OK
		}
	}
	return 0, api.ErrNone
}

// given returns what station.Queue says.
func given(l []api.Truck, bays int) []api.Visit {
	v, _ := station.Queue(l, bays)
	return v
}

// total returns the sum of a number of each sample, of any size.
func total(l []api.Sample, number func(s api.Sample) int) *big.Int {
	n := new(big.Int)
	for _, s := range l {
		n.Add(n, big.NewInt(int64(number(s))))
	}
	return n
}

// part returns all times a of b, rounded down.
func part(all int, a, b *big.Int) int {
	n := new(big.Int).Mul(big.NewInt(int64(all)), a)
	return int(n.Div(n, b).Int64())
}

// judgeWeigh weighs with numbers of any size, as the chapter says it.
func judgeWeigh(s api.Slip) api.Load {
	weight := total(s.Samples, func(x api.Sample) int { return x.Weight })
	sound := total(s.Samples, func(x api.Sample) int { return x.Weight - x.Trash - x.Rot })
	trash := total(s.Samples, func(x api.Sample) int { return x.Trash })
	colour := total(s.Samples, func(x api.Sample) int { return x.Weight * x.Colour })
	firm := total(s.Samples, func(x api.Sample) int { return x.Weight * x.Firm })
	net := s.Gross - s.Tare
	l := api.Load{Net: net, Good: part(net, sound, weight), Trash: part(net, trash, weight)}
	l.Rot = net - l.Good - l.Trash
	l.Colour, l.Firm = part(l.Good, colour, weight), part(l.Good, firm, weight)
	return l
}

// judgeBounce looks at the highest one of the tries that there are.
func judgeBounce(berries [][]int, board, tries int) int {
	n := 0
	for _, heights := range berries {
		highest := -1
		for try := 0; try < tries && try < len(heights); try++ {
			highest = max(highest, heights[try])
		}
		if highest >= board {
			n++
		}
	}
	return n
}

// sizes bounds what is made: trucks, the minutes in which they arrive, how far a span goes, their work, samples, their weight, and what a load weighs.
type sizes struct{ trucks, arrive, wide, work, samples, weight, gross int }

// few has so small numbers that all that can be true can be gone through.
func few() sizes {
	return sizes{trucks: 4, arrive: 9, wide: 2, work: 4, samples: 3, weight: 9, gross: 30}
}

// plain has numbers as they are in an autumn.
func plain() sizes {
	return sizes{trucks: 20, arrive: 300, wide: 30, work: 90, samples: 5, weight: 500, gross: 1 << 24}
}

// great has numbers up to the limits.
func great() sizes {
	return sizes{trucks: api.MaxTrucks, arrive: api.MaxTime, wide: api.MaxTime, work: api.MaxWork, samples: api.MaxSamples, weight: api.MaxSample, gross: api.MaxGross}
}

// world makes valid trucks, slips and berries; the same ones for the same seed.
type world struct {
	*rand.Rand
	sizes
}

func newWorld(seed uint64, s sizes) world { return world{rand.New(rand.NewPCG(seed, 41)), s} }

func (r world) between(lo, hi int) int { return lo + r.IntN(hi-lo+1) }

// someSpan returns a span within 0 to most; many have a single number.
func (r world) someSpan(most int) api.Span {
	lo := r.IntN(most + 1)
	if r.IntN(3) == 0 {
		return one(lo)
	}
	return span(lo, min(most, lo+r.IntN(r.wide+1)))
}

func (r world) someTrucks() []api.Truck {
	var l []api.Truck
	for range r.IntN(r.trucks + 1) {
		l = append(l, api.Truck{Arrive: r.someSpan(r.arrive), Work: r.someSpan(r.work)})
	}
	// Most trucks come about in the order of their tickets.
	if r.IntN(4) > 0 {
		slices.SortFunc(l, func(a, b api.Truck) int { return a.Arrive.Lo - b.Arrive.Lo })
	}
	return l
}

func (r world) someBays() int { return r.between(1, api.MaxBays) }

func (r world) someSample() api.Sample {
	weight := r.between(1, r.weight)
	trash := r.IntN(weight + 1)
	if r.IntN(2) == 0 {
		trash = r.IntN(weight/9 + 1)
	}
	return api.Sample{Weight: weight, Trash: trash, Rot: r.IntN(weight - trash + 1), Colour: r.between(0, api.MaxColour), Firm: r.between(0, api.MaxFirm)}
}

func (r world) someSlip() api.Slip {
	s := api.Slip{Grower: r.between(0, api.MaxGrower), Bed: r.between(0, api.MaxBed), Day: r.between(0, api.MaxDay), Gross: r.between(0, r.gross)}
	s.Tare = r.between(0, s.Gross)
	for range r.between(1, r.samples) {
		s.Samples = append(s.Samples, r.someSample())
	}
	return s
}

// someBerries returns berries of which many have the same heights.
func (r world) someBerries() [][]int {
	var berries [][]int
	high := []int{3, 20, api.MaxBounce}[r.IntN(3)]
	for range r.IntN(20) {
		var heights []int
		for range r.between(0, api.MaxTries) {
			heights = append(heights, r.between(0, high))
		}
		berries = append(berries, heights)
	}
	return berries
}

// someBoard returns a height of a berry, or one beside it, or another one.
func (r world) someBoard(berries [][]int) int {
	heights := slices.Concat(berries...)
	if len(heights) == 0 || r.IntN(8) == 0 {
		return r.between(0, api.MaxBounce)
	}
	return min(api.MaxBounce, max(0, heights[r.IntN(len(heights))]+r.between(-1, 1)))
}

// eachWorld calls do with worlds of each size.
func eachWorld(do func(seed uint64, r world)) {
	for seed := range uint64(300) {
		do(seed, newWorld(seed, few()))
		do(seed, newWorld(seed, plain()))
		do(seed, newWorld(seed, great()))
	}
}

// eachSmall calls do with worlds in which all that can be true can be gone through.
func eachSmall(do func(seed uint64, r world)) {
	for seed := range uint64(400) {
		do(seed, newWorld(seed, few()))
	}
}
