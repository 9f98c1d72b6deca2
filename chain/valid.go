package chain

import "fenberry/api"

const toRiver = -1 // as the pond into which water goes

// checkHours returns ErrLong for too many hours, and ErrArg unless the chain, the water and the hours are valid.
func checkHours(c api.Chain, w []api.Span, l []api.Hour) api.Errno {
	if len(l) > api.MaxHours {
		return api.ErrLong
	}
	if !validChain(c) || !validWater(c, w) {
		return api.ErrArg
	}
	for _, h := range l {
		if !validHour(c, h) {
			return api.ErrArg
		}
	}
	return api.OK
}

func validChain(c api.Chain) bool {
	if len(c.Ponds) < 1 || len(c.Ponds) > api.MaxPonds || len(c.Gates) > api.MaxGates {
		return false
	}
	for i, p := range c.Ponds {
		if !validPond(p, i, len(c.Ponds)) {
			return false
		}
	}
	for _, g := range c.Gates {
		if !validGate(g, len(c.Ponds)) {
			return false
		}
	}
	return true
}

func validPond(p api.Pond, index, ponds int) bool {
	spills := p.Spill == toRiver || p.Spill > index && p.Spill < ponds
	return p.Full >= 1 && p.Full <= api.MaxWater && isWithin(p.Seep, api.MaxSeep) && spills
}

func validGate(g api.Gate, ponds int) bool {
	leads := isIndex(g.From, ponds) && (g.To == toRiver || isIndex(g.To, ponds) && g.To != g.From)
	return leads && isWater(g.Sill) && isWater(g.Step) && isWater(g.Most) && isBoards(g.Boards)
}

func validWater(c api.Chain, w []api.Span) bool {
	if len(w) != len(c.Ponds) {
		return false
	}
	for i, p := range c.Ponds {
		if !isWithin(w[i], p.Full) {
			return false
		}
	}
	return true
}

func validHour(c api.Chain, h api.Hour) bool {
	if len(h.Boards) > api.MaxGates || len(h.Comes) != len(c.Ponds) || len(h.Takes) > api.MaxTakes {
		return false
	}
	for _, b := range h.Boards {
		if !isIndex(b.Gate, len(c.Gates)) || !isBoards(b.Boards) {
			return false
		}
	}
	for _, s := range h.Comes {
		if !isWithin(s, api.MaxWater) {
			return false
		}
	}
	for _, t := range h.Takes {
		if !isIndex(t.Pond, len(c.Ponds)) || !isWater(t.Amount) {
			return false
		}
	}
	return true
}

// validLeast reports whether there is a number for each pond of a valid chain that the pond can hold.
func validLeast(c api.Chain, least []int) bool {
	if len(least) != len(c.Ponds) {
		return false
	}
	for i, p := range c.Ponds {
		if least[i] < 0 || least[i] > p.Full {
			return false
		}
	}
	return true
}

// isWithin reports whether s is a span within 0 to most.
func isWithin(s api.Span, most int) bool { return s.Lo >= 0 && s.Lo <= s.Hi && s.Hi <= most }

func isIndex(i, length int) bool { return i >= 0 && i < length }

func isWater(n int) bool { return n >= 0 && n <= api.MaxWater }

func isBoards(n int) bool { return n >= 0 && n <= api.MaxBoards }
