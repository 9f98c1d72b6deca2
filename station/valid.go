package station

import (
	"slices"

	"fenberry/api"
)

func validTrucks(l []api.Truck) bool {
	return len(l) <= api.MaxTrucks && !slices.ContainsFunc(l, isBadTruck)
}

func isBadTruck(t api.Truck) bool {
	return !isSpanWithin(t.Arrive, api.MaxTime) || !isSpanWithin(t.Work, api.MaxWork)
}

func validSlip(s api.Slip) bool {
	if !isWithin(s.Grower, api.MaxGrower) || !isWithin(s.Bed, api.MaxBed) || !isWithin(s.Day, api.MaxDay) {
		return false
	}
	if !isWithin(s.Gross, api.MaxGross) || !isWithin(s.Tare, s.Gross) {
		return false
	}
	samples := len(s.Samples)
	return samples >= 1 && samples <= api.MaxSamples && !slices.ContainsFunc(s.Samples, isBadSample)
}

func isBadSample(s api.Sample) bool {
	if s.Weight < 1 || s.Weight > api.MaxSample || !isWithin(s.Trash, s.Weight) || !isWithin(s.Rot, s.Weight-s.Trash) {
		return true
	}
	return !isWithin(s.Colour, api.MaxColour) || !isWithin(s.Firm, api.MaxFirm)
}

func validBerries(berries [][]int) bool {
	return len(berries) <= api.MaxBerries && !slices.ContainsFunc(berries, isBadBerry)
}

func isBadBerry(heights []int) bool {
	return len(heights) > api.MaxTries || slices.ContainsFunc(heights, func(n int) bool { return !isWithin(n, api.MaxBounce) })
}

func isSpanWithin(s api.Span, most int) bool { return 0 <= s.Lo && s.Lo <= s.Hi && s.Hi <= most }

func isWithin(n, most int) bool { return 0 <= n && n <= most }
