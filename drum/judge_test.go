package drum_test

import (
	"math"
	"slices"

	"fenberry/api"
)

// stock is how much of each of the beds of few is in each of its vessels, and thrown away.
type stock [4][3]int

// eachPart calls do with all parts of a vessel that come to an amount.
func eachPart(vessel [3]int, amount int, do func(part [3]int)) {
	for a := 0; a <= min(amount, vessel[0]); a++ {
		for b := 0; b <= min(amount-a, vessel[1]); b++ {
			if c := amount - a - b; c <= vessel[2] {
				do([3]int{a, b, c})
			}
		}
	}
}

// courses returns what can be where behind events of few, by going through all courses.
func courses(l []api.DrumEvent) map[stock]bool {
	now := map[stock]bool{{}: true}
	for _, v := range l {
		vessel := slices.Index(few().vessels, v.Vessel)
		next := map[stock]bool{}
		for s := range now {
			other := 3
			switch v.Kind {
			case api.Deliver:
				s[vessel][slices.Index(few().beds, v.Bed)] += v.Amount
				next[s] = true
			case api.Seal:
				next[s] = true
			case api.Pour:
				other = slices.Index(few().vessels, v.Other)
				fallthrough
			case api.Dump:
				eachPart(s[vessel], v.Amount, func(part [3]int) {
					after := s
					for bed, n := range part {
						after[vessel][bed] -= n
						after[other][bed] += n
					}
					next[after] = true
				})
			}
		}
		now = next
	}
	return now
}

// shares is how much of each bed can be in each place.
type shares [17]map[int]api.Span

func newShares() *shares {
	var s shares
	for i := range s {
		s[i] = map[int]api.Span{}
	}
	return &s
}

// origins returns the beds of which there can be some in a vessel.
func (s *shares) origins(vessel int) []api.Origin {
	var l []api.Origin
	for bed := range 1024 {
		if amount := s[vessel][bed]; amount.Hi > 0 {
			l = append(l, api.Origin{Bed: bed, Amount: amount})
		}
	}
	return l
}

// recalled returns the vessels in which there can be, and must be, some of a bed.
func (s *shares) recalled(bed int) (can, must []int) {
	for vessel := range 16 {
		if s[vessel][bed].Hi > 0 {
			can = append(can, vessel)
		}
		if s[vessel][bed].Lo > 0 {
			must = append(must, vessel)
		}
	}
	return can, must
}

// judgeCourses tells how much of each bed can be where behind events of few.
func judgeCourses(l []api.DrumEvent) *shares {
	all := newShares()
	behind := courses(l)
	for i, place := range append(few().vessels, waste) {
		for j, bed := range few().beds {
			s := span(math.MaxInt, math.MinInt)
			for c := range behind {
				s = span(min(s.Lo, c[i][j]), max(s.Hi, c[i][j]))
			}
			all[place][bed] = s
		}
	}
	return all
}

// edge is an amount that flowed from a node to another one, or, if from is below 0, from the bed -1 - from.
type edge struct{ from, to, amount int }

// graph is what flowed. Each vessel has a new node behind each event that takes something out of it.
type graph struct {
	nodes int
	now   [17]int // the node of each place, or 0 if it has none yet
	edges []edge
}

// node returns the node of a place. The node 0 is none.
func (g *graph) node(place int) int {
	if g.now[place] == 0 {
		g.nodes++
		g.now[place] = g.nodes
	}
	return g.now[place]
}

// move lets something flow from a vessel with so much in it to another place.
func (g *graph) move(vessel, to, amount, held int) {
	from := g.node(vessel)
	g.now[vessel] = 0
	g.edges = append(g.edges, edge{from, g.node(vessel), held - amount}, edge{from, g.node(to), amount})
}

func newGraph(l []api.DrumEvent) *graph {
	g := &graph{}
	for i, v := range l {
		held, _, _ := judgePlay(l[:i])
		switch v.Kind {
		case api.Deliver:
			g.edges = append(g.edges, edge{-1 - v.Bed, g.node(v.Vessel), v.Amount})
		case api.Pour:
			g.move(v.Vessel, v.Other, v.Amount, held[v.Vessel].Amount)
		case api.Dump:
			g.move(v.Vessel, waste, v.Amount, held[v.Vessel].Amount)
		}
	}
	return g
}

// narrowest goes through all sets of nodes without the ends, and returns the least that can leave a bed and such a set together: just as much of the bed can come to the ends.
func (g *graph) narrowest(bed int, ends uint) int {
	least := math.MaxInt
	for set := uint(0); set < 2<<g.nodes; set += 2 {
		if set&ends != 0 {
			continue
		}
		sum := 0
		for _, e := range g.edges {
			isFrom := e.from == -1-bed || e.from > 0 && set>>e.from&1 == 1
			if isFrom && set>>e.to&1 == 0 {
				sum += e.amount
			}
		}
		least = min(least, sum)
	}
	return least
}

// judgeCuts tells how much of each bed can be where by going through all sets of places.
func judgeCuts(l []api.DrumEvent, beds []int) *shares {
	g := newGraph(l)
	all := newShares()
	var ends uint
	for _, node := range g.now {
		ends |= 1 << node
	}
	ends &^= 1
	for place, node := range g.now {
		for _, bed := range beds {
			if node == 0 {
				continue
			}
			given := 0
			for _, e := range g.edges {
				if e.from == -1-bed {
					given += e.amount
				}
			}
			there := uint(1) << node
			all[place][bed] = span(given-g.narrowest(bed, ends&^there), g.narrowest(bed, there))
		}
	}
	return all
}

// isSmall tells whether all sets of nodes can be gone through.
func (g *graph) isSmall() bool { return g.nodes <= 11 }
