package plant

import "fenberry/api"

// parts is the mass, the sugar, the acid and the colour: of a stream in grams, of an outlet in thousandths.
type parts [4]int

func grams(s api.Stream) parts { return parts{s.Mass, s.Sugar, s.Acid, s.Colour} }

func thousandths(o api.Outlet) parts { return parts{o.Mass, o.Sugar, o.Acid, o.Colour} }

func (p parts) plus(q parts) parts {
	for i := range p {
		p[i] += q[i]
	}
	return p
}

func (p parts) minus(q parts) parts {
	for i := range p {
		p[i] -= q[i]
	}
	return p
}

// share returns so many thousandths of each part, rounded down.
func (p parts) share(of parts) parts {
	for i := range p {
		p[i] = p[i] * of[i] / api.Whole
	}
	return p
}

// areWithin tells whether each part is from 0 to most.
func (p parts) areWithin(most int) bool {
	for _, n := range p {
		if !isWithin(n, most) {
			return false
		}
	}
	return true
}

func (p parts) stream() api.Stream {
	return api.Stream{Mass: p[0], Sugar: p[1], Acid: p[2], Colour: p[3]}
}

// bins is what is in each bin.
type bins [api.MaxBins]parts

func (b *bins) fill(bin int, p parts) { b[bin] = b[bin].plus(p) }

func (b *bins) streams() []api.Stream {
	l := make([]api.Stream, 0, len(b))
	for _, p := range b {
		l = append(l, p.stream())
	}
	return l
}

// course is a stream on its way through a plant: what is in the bins, and what has come into each machine.
type course struct {
	bins
	machines [api.MaxMachines]parts
}

// send brings parts into a machine or, if to is below 0, into a bin.
func (c *course) send(to int, p parts) {
	if to < 0 {
		c.fill(-1-to, p)
		return
	}
	c.machines[to] = c.machines[to].plus(p)
}

// work parts what has come into a machine.
func (c *course) work(machine int, outlets []api.Outlet) {
	all := c.machines[machine]
	rest := all
	last := len(outlets) - 1
	for _, o := range outlets[:last] {
		share := all.share(thousandths(o))
		c.send(o.To, share)
		rest = rest.minus(share)
	}
	c.send(outlets[last].To, rest)
}

// run returns what is in each bin behind a stream.
func run(m []api.Machine, in api.Stream) []api.Stream {
	c := course{}
	entry := 0
	if len(m) == 0 {
		entry = -1
	}
	c.send(entry, grams(in))
	for i, x := range m {
		c.work(i, x.Outlets)
	}
	return c.streams()
}
