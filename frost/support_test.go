package frost_test

import (
	"math"
	"math/rand/v2"
	"slices"

	"fenberry/api"
)

func span(lo, hi int) api.Span { return api.Span{Lo: lo, Hi: hi} }

// example returns the night, the beds and the pumping of the chapter's examples.
func example() (api.Night, []api.FrostBed, api.Pumping) {
	n := api.Night{
		Slots: 8, Fall: 100, Rise: 200,
		Sensors:  []api.Span{span(-20, 30)},
		Readings: []api.Reading{{Value: 300}, {Slot: 4, Value: 100}},
	}
	l := []api.FrostBed{
		{Bud: -50, Cold: span(0, 30), Lead: 1, Tail: 1, Flow: 10},
		{Bud: -150, Lead: 2, Flow: 30},
		{Bud: -300, Cold: span(0, 50), Flow: 5},
		{Bud: 300, Lead: 1, Flow: 5},
	}
	return n, l, api.Pumping{Pumps: []int{25, 20}, Water: 150}
}

// strangeNumbers are beyond limits, or at them.
func strangeNumbers() []int {
	return []int{math.MinInt, -5001, -1001, -2, -1, 0, 1, 2, 8, 9, 95, 96, 97, 1000, 1001, 5001, api.MaxPump + 1, api.MaxAmount, api.MaxAmount + 1, math.MaxInt}
}

// exactly returns a night of these temperatures: each one is read exactly, and the next one can be any.
func exactly(temps ...int) api.Night {
	n := api.Night{Slots: len(temps), Fall: api.MaxChange, Rise: api.MaxChange, Sensors: []api.Span{{}}}
	for slot, t := range temps {
		n.Readings = append(n.Readings, api.Reading{Slot: slot, Value: t})
	}
	return n
}

// allowed returns which temperatures agree with the readings of a slot.
func allowed(n api.Night, slot int) []bool {
	l := slices.Repeat([]bool{true}, 2*api.MaxDegree+1)
	for _, r := range n.Readings {
		if r.Slot != slot {
			continue
		}
		s := n.Sensors[r.Sensor]
		for i := range l {
			bias := r.Value - (i - api.MaxDegree)
			l[i] = l[i] && s.Lo <= bias && bias <= s.Hi
		}
	}
	return l
}

// reach returns which temperatures of a slot agree with its readings, and have a neighbour from down less to up more in before (nil: no neighbour is needed).
func reach(n api.Night, slot int, before []bool, down, up int) []bool {
	const all = 2*api.MaxDegree + 1
	counts := make([]int, all+1) // how many of before lie below
	for i, ok := range before {
		counts[i+1] = counts[i]
		if ok {
			counts[i+1]++
		}
	}
	possible := allowed(n, slot)
	for i := range possible {
		lo, hi := max(0, i-down), min(all-1, i+up)
		possible[i] = possible[i] && (before == nil || counts[hi+1] > counts[lo])
	}
	return possible
}

// temperatures goes through all temperatures of all slots, forward and backward, and returns the spans of those that a course has; nil without a course.
func temperatures(n api.Night) []api.Span {
	forward, backward := make([][]bool, n.Slots), make([][]bool, n.Slots)
	for slot := range n.Slots {
		if slot == 0 {
			forward[slot] = reach(n, slot, nil, 0, 0)
		} else {
			forward[slot] = reach(n, slot, forward[slot-1], n.Rise, n.Fall)
		}
	}
	for slot := n.Slots - 1; slot >= 0; slot-- {
		if slot == n.Slots-1 {
			backward[slot] = reach(n, slot, nil, 0, 0)
		} else {
			backward[slot] = reach(n, slot, backward[slot+1], n.Fall, n.Rise)
		}
	}
	var l []api.Span
	for slot := range n.Slots {
		s := span(math.MaxInt, math.MinInt)
		for i := range forward[slot] {
			if t := i - api.MaxDegree; forward[slot][i] && backward[slot][i] {
				s = span(min(s.Lo, t), max(s.Hi, t))
			}
		}
		if s.Lo > s.Hi {
			return nil
		}
		l = append(l, s)
	}
	return l
}

// running returns the slots in which a bed has to run, some of them perhaps ahead of slot 0; none if it needs nothing.
func running(b api.FrostBed, temps []api.Span) []int {
	first, last := -1, -1
	for slot, s := range temps {
		if s.Lo-b.Cold.Hi <= b.Bud {
			last = slot
			if first < 0 {
				first = slot
			}
		}
	}
	if first < 0 {
		return nil
	}
	var l []int
	for slot := first - b.Lead; slot <= last+b.Tail && slot < len(temps); slot++ {
		l = append(l, slot)
	}
	return l
}

// gives returns what the pumps give but for the greatest ones.
func gives(p api.Pumping) int {
	pumps := slices.Clone(p.Pumps)
	slices.Sort(pumps)
	sum := 0
	for _, n := range pumps[:len(pumps)-p.Fails] {
		sum += n
	}
	return sum
}

// hindrance returns why beds cannot be saved together, slot by slot, and how many litres they need.
func hindrance(temps []api.Span, l []api.FrostBed, p api.Pumping, beds []int) (why, at, litres int) {
	loads := make([]int, len(temps))
	late := -1
	for _, i := range beds {
		for _, slot := range running(l[i], temps) {
			litres += l[i].Flow
			if slot >= 0 {
				loads[slot] += l[i].Flow
			} else if late < 0 {
				late = i
			}
		}
	}
	if late >= 0 {
		return api.TooLate, late, litres
	}
	for slot, n := range loads {
		if n > gives(p) {
			return api.TooMuch, slot, litres
		}
	}
	if litres > p.Water {
		return api.TooLong, litres, litres
	}
	return api.Nothing, 0, litres
}

// save tries all sets of beds that need something.
func save(temps []api.Span, l []api.FrostBed, p api.Pumping) api.Saving {
	var s api.Saving
	var needy []int
	for i, b := range l {
		if running(b, temps) == nil {
			s.Safe = append(s.Safe, i)
		} else {
			needy = append(needy, i)
		}
	}
	for beds := range setsOf(needy) {
		why, _, litres := hindrance(temps, l, p, beds)
		if why != api.Nothing || len(beds) < len(s.Saved) {
			continue
		}
		if len(beds) > len(s.Saved) || litres < s.Used || litres == s.Used && slices.Compare(beds, s.Saved) < 0 {
			s.Saved, s.Used = beds, litres
		}
	}
	for _, i := range needy {
		if !slices.Contains(s.Saved, i) {
			s.Lost = append(s.Lost, i)
		}
	}
	return s
}

// setsOf yields all parts of a list, each in the order of the list.
func setsOf(l []int) func(yield func([]int) bool) {
	return func(yield func([]int) bool) {
		for bits := range 1 << len(l) {
			var part []int
			for i, x := range l {
				if bits>>i&1 == 1 {
					part = append(part, x)
				}
			}
			if !yield(part) {
				return
			}
		}
	}
}

func sameSaving(a, b api.Saving) bool {
	return slices.Equal(a.Safe, b.Safe) && slices.Equal(a.Saved, b.Saved) && slices.Equal(a.Lost, b.Lost) && a.Used == b.Used
}

// sizes bounds what worlds are made of.
type sizes struct{ slots, sensors, readings, change, bias, beds, flow int }

// few has numbers so small that equal choices are common.
func few() sizes {
	return sizes{slots: 10, sensors: 3, readings: 5, change: 40, bias: 60, beds: 6, flow: 4}
}

// great has numbers up to the limits.
func great() sizes {
	return sizes{slots: api.MaxNight, sensors: api.MaxSensors, readings: api.MaxReadings, change: api.MaxChange, bias: api.MaxBias, beds: 8, flow: api.MaxPump}
}

// world makes valid nights, beds and pumpings; the same ones for the same seed.
type world struct {
	*rand.Rand
	sizes
}

func newWorld(seed uint64, s sizes) world { return world{rand.New(rand.NewPCG(seed, 11)), s} }

func (r world) between(lo, hi int) int { return lo + r.IntN(hi-lo+1) }

func (r world) part(s api.Span) int { return r.between(s.Lo, s.Hi) }

func (r world) someSpan(lo, hi int) api.Span {
	a, b := r.between(lo, hi), r.between(lo, hi)
	return span(min(a, b), max(a, b))
}

// someNight returns a night without readings.
func (r world) someNight() api.Night {
	n := api.Night{Slots: r.between(1, r.slots), Fall: r.IntN(r.change + 1), Rise: r.IntN(r.change + 1)}
	for range r.between(1, r.sensors) {
		n.Sensors = append(n.Sensors, r.someSpan(-r.bias, r.bias))
	}
	return n
}

// someCourse returns temperatures that a night without readings can have, sometimes near the greatest or the least one.
func (r world) someCourse(n api.Night) []int {
	const most = api.MaxDegree
	t := []int{-most, most, r.between(-300, 300), r.between(-300, 300), r.between(-most, most)}[r.IntN(5)]
	var l []int
	for range n.Slots {
		l = append(l, t)
		t = r.between(max(-most, t-n.Fall), min(most, t+n.Rise))
	}
	return l
}

// someReading returns a reading of a course, and whether there can be such a one.
func (r world) someReading(n api.Night, course []int) (api.Reading, bool) {
	x := api.Reading{Sensor: r.IntN(len(n.Sensors)), Slot: r.IntN(n.Slots)}
	x.Value = course[x.Slot] + r.part(n.Sensors[x.Sensor])
	return x, -api.MaxDegree <= x.Value && x.Value <= api.MaxDegree
}

// read returns the night with some readings of a course.
func (r world) read(n api.Night, course []int) api.Night {
	for range r.IntN(r.readings + 1) {
		if x, ok := r.someReading(n, course); ok {
			n.Readings = append(n.Readings, x)
		}
	}
	return n
}

// someBeds returns beds of which some are in danger in a night with a course.
func (r world) someBeds(course []int) []api.FrostBed {
	var l []api.FrostBed
	for range r.IntN(r.beds + 1) {
		b := api.FrostBed{Cold: r.someSpan(0, r.bias), Lead: r.IntN(3) * r.IntN(2), Tail: r.IntN(4), Flow: r.between(1, r.flow)}
		low := course[r.IntN(len(course))] - r.IntN(2*r.bias)
		b.Bud = min(api.MaxDegree, max(-api.MaxDegree, low-b.Cold.Hi))
		if r.IntN(8) == 0 {
			b.Lead, b.Tail = r.IntN(api.MaxNight+1), r.IntN(api.MaxNight+1)
		}
		l = append(l, b)
	}
	return l
}

// somePumping returns pumps and water that are enough for some beds, or for all.
func (r world) somePumping() api.Pumping {
	var p api.Pumping
	least := r.IntN(2) * r.flow / 2
	for range r.IntN(api.MaxPumps + 1) {
		p.Pumps = append(p.Pumps, r.between(least, r.flow))
	}
	p.Fails = min(len(p.Pumps), r.IntN(3))
	p.Water = min(api.MaxAmount, r.IntN(r.flow*r.beds*min(r.slots, 30)))
	return p
}

// someOfAll returns a course, a night whose readings are those of it, beds, and a pumping.
func (r world) someOfAll() ([]int, api.Night, []api.FrostBed, api.Pumping) {
	n := r.someNight()
	course := r.someCourse(n)
	n = r.read(n, course)
	return course, n, r.someBeds(course), r.somePumping()
}

// eachWorld calls do with worlds of small and of great numbers.
func eachWorld(do func(seed uint64, r world)) {
	for seed := range uint64(240) {
		do(seed, newWorld(seed, few()))
		if seed%8 == 0 {
			do(seed, newWorld(seed, great()))
		}
	}
}
