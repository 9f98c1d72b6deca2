package drum

import (
	"maps"
	"slices"
)

// Kinds of places.
const (
	inBed    = iota
	inVessel // until something is taken out of it for the next time
	inWaste
)

// place is where berries or juice are for a while: its kind, the number of the bed or of the vessel, and how often something was taken out of the vessel before.
type place struct{ kind, number, takings int }

func bedPlace(bed int) place { return place{kind: inBed, number: bed} }

func vesselPlace(vessel, takings int) place { return place{inVessel, vessel, takings} }

func wastePlace() place { return place{kind: inWaste} }

// pipe leads from one place to another one.
type pipe struct{ from, to place }

func (p pipe) back() pipe { return pipe{p.to, p.from} }

// pipes is an amount for each pipe: of what flowed through it, from whatever beds. They never lead in a circle, as what flows is in a later place then.
type pipes map[pipe]int

func (p pipes) flow(from, to place, amount int) { p[pipe{from, to}] += amount }

// beds returns the beds from which something was delivered, rising.
func (p pipes) beds() []int {
	set := map[int]bool{}
	for x := range p {
		if x.from.kind == inBed {
			set[x.from.number] = true
		}
	}
	return slices.Sorted(maps.Keys(set))
}

func (p pipes) delivered(bed int) int {
	sum := 0
	for x, amount := range p {
		if x.from == bedPlace(bed) {
			sum += amount
		}
	}
	return sum
}
