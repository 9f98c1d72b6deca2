package frost

import (
	"slices"

	"fenberry/api"
)

// run is the slots in which a bed's sprinklers have to run, from begin to the one ahead of end. The zero run means none: any other one ends behind slot 0.
type run struct{ begin, end int }

func (r run) isNone() bool { return r == run{} }

// isTooLate reports whether the run would begin ahead of the night.
func (r run) isTooLate() bool { return r.begin < 0 }

func (r run) has(slot int) bool { return r.begin <= slot && slot < r.end }

// runOf returns the run of a bed in a night with these temperatures.
func runOf(b api.FrostBed, temps []api.Span) run {
	var r run
	for slot := range slots(0, len(temps)-1) {
		if !isInDanger(b, temps[slot]) {
			continue
		}
		if r.isNone() {
			r.begin = slot - b.Lead
		}
		r.end = min(slot+b.Tail+1, len(temps))
	}
	return r
}

func isInDanger(b api.FrostBed, temp api.Span) bool { return temp.Lo-b.Cold.Hi <= b.Bud }

// defence is the beds of a night, when they have to run, what the pumps give in a slot, and how much water there is.
type defence struct {
	beds  []api.FrostBed
	runs  []run // of each bed
	slots int
	gives int
	water int
}

// newDefence returns ErrArg unless all that is given is valid, and ErrState if the night has no course.
func newDefence(n api.Night, l []api.FrostBed, p api.Pumping) (defence, api.Errno) {
	if !validNight(n) || !validBeds(l) || !validPumping(p) {
		return defence{}, api.ErrArg
	}
	temps, e := temperatures(n)
	if e != api.OK {
		return defence{}, e
	}
	d := defence{beds: l, slots: n.Slots, gives: surely(p), water: p.Water}
	for _, b := range l {
		d.runs = append(d.runs, runOf(b, temps))
	}
	return d, api.OK
}

// surely returns what the pumps give whichever of them fail: the greatest ones, at worst.
func surely(p api.Pumping) int {
	pumps := slices.Clone(p.Pumps)
	sortBy(pumps, func(litres int) int { return litres })
	sum := 0
	for _, litres := range pumps[:len(pumps)-p.Fails] {
		sum += litres
	}
	return sum
}

func (d defence) all() set { return 1<<len(d.beds) - 1 }

// needy returns the beds that need something.
func (d defence) needy() set {
	return d.those(func(r run) bool { return !r.isNone() })
}

// those returns the beds with certain runs.
func (d defence) those(certain func(run) bool) set {
	var s set
	for bed, r := range d.runs {
		if certain(r) {
			s |= 1 << bed
		}
	}
	return s
}

// hindrance returns why the beds of a set cannot be saved together, and where. Those that need nothing do not matter, as they never run.
func (d defence) hindrance(s set) (why, at int) {
	for bed, r := range d.runs {
		if s.has(bed) && r.isTooLate() {
			return api.TooLate, bed
		}
	}
	for slot := range slots(0, d.slots-1) {
		if d.flow(s, slot) > d.gives {
			return api.TooMuch, slot
		}
	}
	if litres := d.litres(s); litres > d.water {
		return api.TooLong, litres
	}
	return api.Nothing, 0
}

// flow returns how many litres the beds of a set need in a slot.
func (d defence) flow(s set, slot int) int {
	sum := 0
	for bed, r := range d.runs {
		if s.has(bed) && r.has(slot) {
			sum += d.beds[bed].Flow
		}
	}
	return sum
}

// litres returns how many litres the beds of a set need in all.
func (d defence) litres(s set) int {
	sum := 0
	for bed, r := range d.runs {
		if s.has(bed) {
			sum += d.beds[bed].Flow * (r.end - r.begin)
		}
	}
	return sum
}

// best returns the set of those beds that need something that is to be saved: the first one that nothing hinders, from the best one on.
func (d defence) best() set {
	sets := d.choices()
	sortBy(sets, func(s set) int { return -s.size() }, d.litres, set.place)
	// The last one is the empty set, which nothing hinders.
	first := slices.IndexFunc(sets, func(s set) bool {
		why, _ := d.hindrance(s)
		return why == api.Nothing
	})
	return sets[first]
}

// choices returns all sets of the beds that need something, and for which it is not too late.
func (d defence) choices() []set {
	savable := d.those(func(r run) bool { return !r.isNone() && !r.isTooLate() })
	var sets []set
	for s := range d.all() + 1 {
		if s&^savable == 0 {
			sets = append(sets, s)
		}
	}
	return sets
}
