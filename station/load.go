package station

import "fenberry/api"

// loadOf returns the load of a valid slip. All products are below 2^62: there are at most 2^27 grams in it, and at most 2^25 in its samples, and a firmness is below 2^10.
func loadOf(s api.Slip) api.Load {
	weight := sum(s.Samples, func(x api.Sample) int { return x.Weight })
	trash := sum(s.Samples, func(x api.Sample) int { return x.Trash })
	rot := sum(s.Samples, func(x api.Sample) int { return x.Rot })
	red := sum(s.Samples, func(x api.Sample) int { return x.Weight * x.Colour })
	firm := sum(s.Samples, func(x api.Sample) int { return x.Weight * x.Firm })

	l := api.Load{Net: s.Gross - s.Tare}
	l.Good = l.Net * (weight - trash - rot) / weight
	l.Trash = l.Net * trash / weight
	l.Rot = l.Net - l.Good - l.Trash
	l.Colour = l.Good * red / weight
	l.Firm = l.Good * firm / weight
	return l
}

// sum returns the sum of a number of each thing.
func sum[T any](things []T, number func(t T) int) int {
	n := 0
	for _, t := range things {
		n += number(t)
	}
	return n
}
