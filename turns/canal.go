package turns

import (
	"cmp"
	"iter"
	"maps"
	"slices"

	"fenberry/api"
)

// request is an ask, and how much of it is open.
type request struct {
	api.Ask
	open int
}

// compare tells which one of two requests of a grower is filled first.
func (r *request) compare(o *request) int {
	return cmp.Or(cmp.Compare(r.To, o.To), cmp.Compare(r.From, o.From))
}

func (r *request) isIn(slot int) bool { return r.From <= slot && slot <= r.To }

// user is a grower with a right, its requests in the order in which they are filled, and how much it has got in all.
type user struct {
	api.Right
	asks []*request
	got  int
}

// need returns how much the user needs in a slot.
func (u *user) need(slot int) int {
	wanted := 0
	for _, r := range u.asks {
		if r.isIn(slot) {
			wanted += r.open
		}
	}
	return min(u.Most, u.Total-u.got, wanted)
}

// get gives the user some litres in a slot, at most what it needs.
func (u *user) get(slot, litres int) {
	u.got += litres
	for _, r := range u.asks {
		if r.isIn(slot) {
			part := min(r.open, litres)
			r.open -= part
			litres -= part
		}
	}
}

// canal is a supply, and those who share it.
type canal struct {
	api.Supply
	users map[int]*user   // by grower
	ranks map[int][]*user // by rank
	asks  []*request      // in the order of the list
	kept  int
}

// newCanal returns the canal of valid rights, asks and a supply, ahead of its first slot.
func newCanal(l []api.Right, asks []api.Ask, s api.Supply) *canal {
	c := &canal{Supply: s, users: map[int]*user{}, ranks: map[int][]*user{}}
	for _, r := range l {
		u := &user{Right: r}
		c.users[r.Grower] = u
		c.ranks[r.Rank] = append(c.ranks[r.Rank], u)
	}
	for _, a := range asks {
		r := &request{Ask: a, open: a.Amount}
		u := c.users[a.Grower]
		u.asks = append(u.asks, r)
		c.asks = append(c.asks, r)
	}
	for _, r := range l {
		// Stable, as of equal asks the first one in the list is filled first.
		slices.SortStableFunc(c.users[r.Grower].asks, (*request).compare)
	}
	return c
}

// rising yields the ranks, the least one first.
func (c *canal) rising() iter.Seq[int] {
	return func(yield func(int) bool) {
		for _, rank := range slices.Sorted(maps.Keys(c.ranks)) {
			if !yield(rank) {
				return
			}
		}
	}
}

// claims returns the claims of those users of a rank who need something.
func (c *canal) claims(rank int, need func(*user) int) []claim {
	var l []claim
	for _, u := range c.ranks[rank] {
		if n := need(u); n > 0 {
			l = append(l, claim{Right: u.Right, need: n})
		}
	}
	return l
}

// pass lets a slot go by, and returns its grants, by rising grower, and what is spilled.
func (c *canal) pass(slot int) (grants []api.Grant, spilled int) {
	left := c.kept + c.Water[slot]
	need := func(u *user) int { return u.need(slot) }
	for rank := range c.rising() {
		gets := divide(c.claims(rank, need), left)
		for _, u := range c.ranks[rank] {
			litres := gets[u.Grower]
			if litres == 0 {
				continue
			}
			u.get(slot, litres)
			left -= litres
			grants = append(grants, api.Grant{Slot: slot, Grower: u.Grower, Amount: litres})
		}
	}
	slices.SortFunc(grants, func(a, b api.Grant) int { return cmp.Compare(a.Grower, b.Grower) })
	c.kept = min(left, c.Store)
	return grants, left - c.kept
}
