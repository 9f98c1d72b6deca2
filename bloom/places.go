package bloom

import (
	"iter"
	"slices"

	"fenberry/api"
)

// places is where each colony is on a day: on a bed, or Away, as are those that the bloom does not have.
type places [api.MaxColonies]int

func allAway() places {
	var p places
	for i := range p {
		p[i] = api.Away
	}
	return p
}

// placesOf returns the places of a day of a plan.
func placesOf(row []int) places {
	p := allAway()
	copy(p[:], row)
	return p
}

// list returns the places of the first colonies.
func (p places) list(colonies int) []int { return slices.Clone(p[:colonies]) }

// allPlaces yields all places that so many colonies can have on so many beds, in the order of plans.
func allPlaces(colonies, beds int) iter.Seq[places] {
	return func(yield func(places) bool) {
		for p, more := allAway(), true; more; p, more = p.following(colonies, beds) {
			if !yield(p) {
				return
			}
		}
	}
}

// following returns the places next in order, or false behind the last ones.
func (p places) following(colonies, beds int) (places, bool) {
	for i := colonies - 1; i >= 0; i-- {
		if p[i]+1 < beds {
			p[i]++
			return p, true
		}
		p[i] = api.Away
	}
	return p, false
}

// moves returns how many colonies are moved to a bed in the night between two days.
func moves(before, now places) int {
	n := 0
	for colony, place := range now {
		if place != api.Away && place != before[colony] {
			n++
		}
	}
	return n
}
