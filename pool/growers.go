package pool

import (
	"iter"
	"maps"
	"slices"

	"fenberry/api"
)

// harvest is what a grower delivered: what it is worth, and what was paid at once for it.
type harvest struct{ grower, worth, advance int }

// growers is what each grower delivered that has a delivery.
type growers map[int]harvest

func gather(t api.Terms, l []api.Delivery) growers {
	g := growers{}
	for _, d := range l {
		if _, has := g[d.Grower]; !has {
			g[d.Grower] = harvestOf(t, l, d.Grower)
		}
	}
	return g
}

// harvestOf returns what a grower delivered. Each delivery is rounded by itself.
func harvestOf(t api.Terms, l []api.Delivery, grower int) harvest {
	h := harvest{grower: grower}
	for d := range deliveriesOf(l, grower) {
		worth, _ := worthOf(t, d)
		h.worth += worth
		h.advance += advanceOf(t, worth)
	}
	return h
}

// deliveriesOf yields the deliveries of one grower.
func deliveriesOf(l []api.Delivery, grower int) iter.Seq[api.Delivery] {
	return func(yield func(api.Delivery) bool) {
		for _, d := range l {
			if d.Grower == grower && !yield(d) {
				return
			}
		}
	}
}

// worth returns what was delivered by all growers together.
func (g growers) worth() int {
	n := 0
	for _, h := range g {
		n += h.worth
	}
	return n
}

// payments returns what each grower gets of a revenue, by rising grower.
func (g growers) payments(revenue int) []payment {
	all := g.worth()
	var l []payment
	for _, grower := range slices.Sorted(maps.Keys(g)) {
		h := g[grower]
		l = append(l, payment{h, share(revenue, h.worth, all)})
	}
	return l
}

// payment is what a grower delivered, and the share of the revenue for it.
type payment struct {
	harvest
	share int
}

// told returns the payment as the api tells it.
func (p payment) told() api.Payment {
	return api.Payment{Grower: p.grower, Worth: p.worth, Advance: p.advance, Share: p.share, Rest: p.share - p.advance}
}

// share returns the part of a revenue that a worth of all worths is. The product is below 2^63: the revenue is at most 2^30, and no 128 deliveries are worth 2^33.
func share(revenue, worth, all int) int {
	if all == 0 {
		return 0
	}
	return revenue * worth / all
}
