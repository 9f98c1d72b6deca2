package turns_test

import (
	"cmp"
	"math/rand/v2"
	"slices"

	"fenberry/api"
)

// example returns the rights, the asks and the supply of the chapter's examples.
func example() ([]api.Right, []api.Ask, api.Supply) {
	l := []api.Right{
		{Grower: 7, Rank: 1, Share: 2, Most: 100, Total: 1000},
		{Grower: 8, Rank: 1, Share: 1, Most: 100, Total: 1000},
		{Grower: 3, Rank: 0, Share: 1, Most: 30, Total: 50},
	}
	asks := []api.Ask{{Grower: 7, From: 0, To: 1, Amount: 60}, {Grower: 8, From: 0, To: 0, Amount: 50}, {Grower: 3, From: 0, To: 2, Amount: 45}}
	return l, asks, api.Supply{Water: []int{50, 40, 100}, Store: 20}
}

func sum(l []int) int {
	n := 0
	for _, x := range l {
		n += x
	}
	return n
}

// sizes bounds what worlds are made of.
type sizes struct{ rights, ranks, share, asks, slots, litres int }

// few has numbers so small that a test can give litre by litre.
func few() sizes { return sizes{rights: 5, ranks: 3, share: 4, asks: 12, slots: 6, litres: 30} }

// great has numbers up to the limits, but for the water: a slot's and what is kept are one amount together.
func great() sizes {
	return sizes{rights: api.MaxRights, ranks: 8, share: api.MaxShare, asks: api.MaxAsks, slots: 12, litres: api.MaxAmount / 4}
}

// world makes valid rights, asks and supplies; the same ones for the same seed.
type world struct {
	*rand.Rand
	sizes
}

func newWorld(seed uint64, s sizes) world {
	return world{rand.New(rand.NewPCG(seed, 7)), s}
}

func (r world) amount() int { return r.IntN(r.litres + 1) }

func (r world) someRights() []api.Right {
	var l []api.Right
	for _, grower := range r.Perm(api.MaxGrower + 1)[:1+r.IntN(r.rights)] {
		l = append(l, api.Right{Grower: grower, Rank: r.IntN(r.ranks), Share: 1 + r.IntN(r.share), Most: r.amount(), Total: min(api.MaxAmount, 3*r.amount())})
	}
	return l
}

func (r world) someAsks(l []api.Right) []api.Ask {
	var asks []api.Ask
	for range r.IntN(r.asks + 1) {
		from := r.IntN(r.slots)
		asks = append(asks, api.Ask{Grower: l[r.IntN(len(l))].Grower, From: from, To: from + r.IntN(r.slots), Amount: 1 + r.IntN(r.litres)})
	}
	return asks
}

func (r world) someSupply() api.Supply {
	s := api.Supply{Store: r.amount() * r.IntN(2)}
	for range r.IntN(r.slots + 1) {
		s.Water = append(s.Water, r.amount()*(1+r.IntN(3)))
	}
	return s
}

func (r world) someOfAll() ([]api.Right, []api.Ask, api.Supply) {
	l := r.someRights()
	return l, r.someAsks(l), r.someSupply()
}

// isAhead reports whether a's n-th litre comes ahead of b's m-th one.
func isAhead(a api.Right, n int, b api.Right, m int) bool {
	x, y := n*b.Share, m*a.Share // n / a.Share and m / b.Share, times both shares
	return x < y || x == y && a.Grower < b.Grower
}

// litreByLitre shares water as the chapter says it, one litre after the other.
func litreByLitre(l []api.Right, needs []int, water int) []int {
	has := make([]int, len(l))
	for range water {
		next := -1
		for i, r := range l {
			if has[i] < needs[i] && (next < 0 || isAhead(r, has[i]+1, l[next], has[next]+1)) {
				next = i
			}
		}
		if next < 0 {
			break
		}
		has[next]++
	}
	return has
}

// player plays the slots of a supply as the chapter says them; share says how growers of one rank share.
type player struct {
	l     []api.Right
	asks  []api.Ask
	share func(l []api.Right, needs []int, water int) []int

	got, open []int // of each right, of each ask
	kept      int
}

func newPlayer(l []api.Right, asks []api.Ask) *player {
	p := &player{l: l, asks: asks, share: litreByLitre, got: make([]int, len(l))}
	for _, a := range asks {
		p.open = append(p.open, a.Amount)
	}
	return p
}

// active returns the indexes of a grower's asks in a slot, in the order in which they are filled.
func (p *player) active(grower, slot int) []int {
	var l []int
	for i, a := range p.asks {
		if a.Grower == grower && a.From <= slot && slot <= a.To {
			l = append(l, i)
		}
	}
	slices.SortFunc(l, func(i, k int) int {
		a, b := p.asks[i], p.asks[k]
		return cmp.Or(a.To-b.To, a.From-b.From, i-k)
	})
	return l
}

func (p *player) needs(slot int) []int {
	needs := make([]int, len(p.l))
	for i, r := range p.l {
		for _, k := range p.active(r.Grower, slot) {
			needs[i] += p.open[k]
		}
		needs[i] = min(needs[i], r.Most, r.Total-p.got[i])
	}
	return needs
}

// pass plays a slot, and returns what each right gets, and what is spilled.
func (p *player) pass(slot int, s api.Supply) (gets []int, spilled int) {
	gets, all := make([]int, len(p.l)), p.needs(slot)
	water := p.kept + s.Water[slot]
	for rank := range api.MaxRank + 1 {
		var members, needs []int
		var rights []api.Right
		for i, r := range p.l {
			if r.Rank == rank {
				members, needs, rights = append(members, i), append(needs, all[i]), append(rights, r)
			}
		}
		for k, n := range p.share(rights, needs, water) {
			gets[members[k]] = n
		}
		for _, i := range members {
			water -= gets[i]
		}
	}
	p.give(slot, gets)
	p.kept = min(water, s.Store)
	return gets, water - p.kept
}

func (p *player) give(slot int, gets []int) {
	for i, n := range gets {
		p.got[i] += n
		for _, k := range p.active(p.l[i].Grower, slot) {
			part := min(n, p.open[k])
			p.open[k] -= part
			n -= part
		}
	}
}

// grantsOf returns the grants of a slot in which the rights get so much.
func grantsOf(l []api.Right, slot int, gets []int) []api.Grant {
	var grants []api.Grant
	for i, n := range gets {
		if n > 0 {
			grants = append(grants, api.Grant{Slot: slot, Grower: l[i].Grower, Amount: n})
		}
	}
	slices.SortFunc(grants, func(a, b api.Grant) int { return a.Grower - b.Grower })
	return grants
}

// getsIn returns what each right gets in a slot.
func getsIn(l []api.Right, grants []api.Grant, slot int) []int {
	gets := make([]int, len(l))
	for i, r := range l {
		for _, g := range grants {
			if g.Slot == slot && g.Grower == r.Grower {
				gets[i] += g.Amount
			}
		}
	}
	return gets
}
