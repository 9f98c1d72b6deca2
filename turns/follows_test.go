package turns_test

import (
	"slices"
	"testing"

	"fenberry/api"
	"fenberry/turns"
)

// eachWorld calls do with worlds of small and of great numbers.
func eachWorld(do func(seed uint64, r world)) {
	for seed := range uint64(400) {
		do(seed, newWorld(seed, few()))
		if seed%4 == 0 {
			do(seed, newWorld(seed, great()))
		}
	}
}

// P2.6, P2: what comes in is granted, spilled or kept; what is granted is not open any more.
func TestWaterIsConserved(t *testing.T) {
	eachWorld(func(seed uint64, r world) {
		l, asks, s := r.someOfAll()
		grants, spilled, kept, _ := turns.Run(l, asks, s)
		open, _ := turns.Open(l, asks, s)
		granted, asked := 0, 0
		for _, g := range grants {
			granted += g.Amount
		}
		for _, a := range asks {
			asked += a.Amount
		}
		if granted+sum(spilled)+kept != sum(s.Water) || asked-granted != sum(open) || kept < 0 || kept > s.Store {
			t.Fatal(seed, granted, sum(spilled), kept, sum(s.Water), asked, sum(open))
		}
	})
}

// openOf returns how much is open of a grower's asks from a slot to another one.
func openOf(asks []api.Ask, open []int, a api.Ask) int {
	n := 0
	for i, b := range asks {
		if b.Grower == a.Grower && b.From == a.From && b.To == a.To {
			n += open[i]
		}
	}
	return n
}

// P2.6, P4, P11: the order of rights and of asks makes no difference to the grants.
func TestAnyOrder(t *testing.T) {
	eachWorld(func(seed uint64, r world) {
		l, asks, s := r.someOfAll()
		grants, spilled, kept, _ := turns.Run(l, asks, s)
		open, _ := turns.Open(l, asks, s)
		l2, asks2 := slices.Clone(l), slices.Clone(asks)
		r.Shuffle(len(l2), func(i, k int) { l2[i], l2[k] = l2[k], l2[i] })
		r.Shuffle(len(asks2), func(i, k int) { asks2[i], asks2[k] = asks2[k], asks2[i] })
		grants2, spilled2, kept2, _ := turns.Run(l2, asks2, s)
		open2, _ := turns.Open(l2, asks2, s)
		if !slices.Equal(grants, grants2) || !slices.Equal(spilled, spilled2) || kept != kept2 {
			t.Fatal(seed, grants, grants2)
		}
		for _, a := range asks {
			if openOf(asks, open, a) != openOf(asks2, open2, a) {
				t.Fatal(seed, a)
			}
		}
	})
}

// P2.6, P4: if nothing can be kept, no ask of a junior grower changes what a senior one gets.
func TestJuniorAsksDoNotMatter(t *testing.T) {
	changed := 0
	eachWorld(func(seed uint64, r world) {
		l, asks, s := r.someOfAll()
		s.Store = 0
		rank := r.IntN(r.ranks)
		grants, _, _, _ := turns.Run(l, asks, s)
		isJunior := func(grower int) bool {
			return slices.ContainsFunc(l, func(x api.Right) bool { return x.Grower == grower && x.Rank > rank })
		}
		other := slices.DeleteFunc(slices.Clone(asks), func(a api.Ask) bool { return isJunior(a.Grower) && r.IntN(3) > 0 })
		for i := range other {
			if isJunior(other[i].Grower) {
				other[i].Amount = 1 + r.amount()
			}
		}
		grants2, _, _, _ := turns.Run(l, other, s)
		if !slices.Equal(grants, grants2) {
			changed++
		}
		senior := func(grants []api.Grant) []api.Grant {
			return slices.DeleteFunc(slices.Clone(grants), func(g api.Grant) bool { return isJunior(g.Grower) })
		}
		if !slices.Equal(senior(grants), senior(grants2)) {
			t.Fatal(seed, grants, grants2)
		}
	})
	if changed < 50 {
		t.Error("too few", changed)
	}
}

// P2.6, P4: nobody gets more than is right; while water is left, all needs are met; nobody waits for a junior; a rank shares fairly.
func TestRightsAreKept(t *testing.T) {
	left := 0
	eachWorld(func(seed uint64, r world) {
		l, asks, s := r.someOfAll()
		p := newPlayer(l, asks)
		grants, spilled, _, _ := turns.Run(l, asks, s)
		for slot, water := range s.Water {
			needs, gets := p.needs(slot), getsIn(l, grants, slot)
			now := p.kept + water - sum(gets)
			if !isServed(l, needs, gets, now) || now != spilled[slot]+min(now, s.Store) {
				t.Fatal(seed, slot, needs, gets, now)
			}
			if now > 0 && sum(gets) > 0 {
				left++
			}
			p.give(slot, gets)
			p.kept = min(now, s.Store)
		}
	})
	if left < 100 {
		t.Error("too few", left)
	}
}

// isServed reports whether what the rights get in a slot is what they should get, if so much is left.
func isServed(l []api.Right, needs, gets []int, left int) bool {
	for i, r := range l {
		if gets[i] < 0 || gets[i] > needs[i] || left > 0 && gets[i] < needs[i] {
			return false
		}
		for k, other := range l {
			if other.Rank < r.Rank && gets[i] > 0 && gets[k] < needs[k] {
				return false
			}
			if other.Rank == r.Rank && !isFair([]api.Right{r, other}, []int{needs[i], needs[k]}, []int{gets[i], gets[k]}) {
				return false
			}
		}
	}
	return left >= 0
}

// P2.6: with more water in a slot nobody gets less in it.
func TestMoreWater(t *testing.T) {
	more := 0
	eachWorld(func(seed uint64, r world) {
		l, asks, s := r.someOfAll()
		if len(s.Water) == 0 {
			return
		}
		slot := r.IntN(len(s.Water))
		rich := api.Supply{Water: slices.Clone(s.Water), Store: s.Store}
		rich.Water[slot] += 1 + r.amount()
		grants, _, _, _ := turns.Run(l, asks, s)
		grants2, _, _, _ := turns.Run(l, asks, rich)
		a, b := getsIn(l, grants, slot), getsIn(l, grants2, slot)
		for i := range l {
			if a[i] > b[i] {
				t.Fatal(seed, slot, a, b)
			}
		}
		if sum(a) < sum(b) {
			more++
		}
	})
	if more < 50 {
		t.Error("too few", more)
	}
}

// P2.5: arguments are only read, also by what comes behind the call; results are new.
func TestMemory(t *testing.T) {
	l, asks, s := example()
	needs := []int{9, 0, 4}
	l2, asks2, s2 := example()
	first, _ := turns.Share(l, needs, 7)
	grants, spilled, _, _ := turns.Run(l, asks, s)
	open, _ := turns.Open(l, asks, s)
	if !slices.Equal(l, l2) || !slices.Equal(asks, asks2) || !slices.Equal(s.Water, s2.Water) || !slices.Equal(needs, []int{9, 0, 4}) {
		t.Error(l, asks, s, needs)
	}
	clear(first)
	clear(grants)
	clear(spilled)
	clear(open)
	if !slices.Equal(l, l2) || !slices.Equal(asks, asks2) || !slices.Equal(s.Water, s2.Water) || !slices.Equal(needs, []int{9, 0, 4}) {
		t.Error("shared", l, asks, s, needs)
	}
	TestExamples(t)
}
