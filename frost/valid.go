package frost

import (
	"slices"

	"fenberry/api"
)

func validNight(n api.Night) bool {
	if !isWithin(n.Slots, 1, api.MaxNight) || !isWithin(n.Fall, 0, api.MaxChange) || !isWithin(n.Rise, 0, api.MaxChange) {
		return false
	}
	if len(n.Sensors) > api.MaxSensors || len(n.Readings) > api.MaxReadings {
		return false
	}
	for _, s := range n.Sensors {
		if !isSpanWithin(s, -api.MaxBias, api.MaxBias) {
			return false
		}
	}
	for _, r := range n.Readings {
		if !isIndex(r.Sensor, len(n.Sensors)) || !isIndex(r.Slot, n.Slots) || !isDegree(r.Value) {
			return false
		}
	}
	return true
}

func validBeds(l []api.FrostBed) bool {
	return len(l) <= api.MaxFrostBeds && !slices.ContainsFunc(l, func(b api.FrostBed) bool { return !validBed(b) })
}

func validBed(b api.FrostBed) bool {
	cold := isDegree(b.Bud) && isSpanWithin(b.Cold, 0, api.MaxBias)
	return cold && isWithin(b.Lead, 0, api.MaxNight) && isWithin(b.Tail, 0, api.MaxNight) && isWithin(b.Flow, 1, api.MaxPump)
}

func validPumping(p api.Pumping) bool {
	pumps := len(p.Pumps) <= api.MaxPumps && allWithin(p.Pumps, 0, api.MaxPump)
	return pumps && isWithin(p.Fails, 0, len(p.Pumps)) && isAmount(p.Water)
}

// areBeds reports whether a list is strictly rising, and all of it are indices of beds.
func areBeds(l []int, beds int) bool {
	last := -1
	for _, bed := range l {
		if bed <= last || bed >= beds {
			return false
		}
		last = bed
	}
	return true
}

func allWithin(l []int, least, most int) bool {
	return !slices.ContainsFunc(l, func(n int) bool { return !isWithin(n, least, most) })
}

func isSpanWithin(s api.Span, least, most int) bool {
	return least <= s.Lo && s.Lo <= s.Hi && s.Hi <= most
}

func isDegree(n int) bool { return isWithin(n, -api.MaxDegree, api.MaxDegree) }

func isAmount(n int) bool { return isWithin(n, 0, api.MaxAmount) }

func isIndex(i, length int) bool { return isWithin(i, 0, length-1) }

func isWithin(n, least, most int) bool { return least <= n && n <= most }
