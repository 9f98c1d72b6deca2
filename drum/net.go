package drum

import (
	"maps"
	"slices"
)

// net is pipes, and to which places they lead from each place, forward or back.
type net struct {
	pipes pipes
	next  map[place][]place
}

// net returns the net of pipes. In which order the places behind another one are found makes no difference to the most that can flow.
func (p pipes) net() net {
	n := net{pipes: p, next: map[place][]place{}}
	for x := range p {
		n.next[x.from] = append(n.next[x.from], x.to)
		n.next[x.to] = append(n.next[x.to], x.from)
	}
	return n
}

// most returns how much from a bed can have flowed to those places for which isEnd is true. What of the bed flows through a pipe may grow until nothing else flows through it, or be less again, so that it flows elsewhere.
func (n net) most(bed int, isEnd func(p place) bool) int {
	left := room(maps.Clone(n.pipes))
	sum := 0
	for {
		way := n.way(bedPlace(bed), isEnd, left)
		if len(way) == 0 {
			return sum
		}
		sum += left.send(way)
	}
}

// way returns the pipes of a shortest way to an end on which there is room, the last one first; none if there is no such way.
func (n net) way(from place, isEnd func(p place) bool, left room) []pipe {
	came := map[place]pipe{from: {}}
	q := queue[place]{}
	q.put(from)
	for !q.isEmpty() {
		p := q.take()
		if isEnd(p) {
			return wayBack(came, p, from)
		}
		for _, to := range n.next[p] {
			x := pipe{p, to}
			if _, seen := came[to]; !seen && left[x] > 0 {
				came[to] = x
				q.put(to)
			}
		}
	}
	return nil
}

// wayBack returns the pipes through which the last place was reached from the first one.
func wayBack(came map[place]pipe, last, first place) []pipe {
	var way []pipe
	for p := last; p != first; p = came[p].from {
		way = append(way, came[p])
	}
	return way
}

// room is how much more from a bed can flow through each pipe; through the pipe back it is how much less can flow.
type room map[pipe]int

// send lets as much flow on a way as there is room for, and returns how much that is.
func (r room) send(way []pipe) int {
	narrowest := slices.MinFunc(way, func(a, b pipe) int { return r[a] - r[b] })
	amount := r[narrowest]
	for _, x := range way {
		r[x] -= amount
		r[x.back()] += amount
	}
	return amount
}
