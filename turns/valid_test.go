package turns_test

import (
	"math"
	"slices"
	"testing"

	"fenberry/api"
	"fenberry/turns"
)

// change makes one thing of the chapter's example different.
type change struct {
	name string
	do   func(l *[]api.Right, asks *[]api.Ask, s *api.Supply)
}

func onRights(name string, do func(l []api.Right)) change {
	return change{name, func(l *[]api.Right, asks *[]api.Ask, s *api.Supply) { do(*l) }}
}

func onAsks(name string, do func(asks []api.Ask)) change {
	return change{name, func(l *[]api.Right, asks *[]api.Ask, s *api.Supply) { do(*asks) }}
}

func onSupply(name string, do func(s *api.Supply)) change {
	return change{name, func(l *[]api.Right, asks *[]api.Ask, s *api.Supply) { do(s) }}
}

// moreRights returns so many rights, with the example's growers among them.
func moreRights(l []api.Right, n int) []api.Right {
	for i := len(l); i < n; i++ {
		l = append(l, api.Right{Grower: 100 + i, Share: 1})
	}
	return l
}

func badRights() []change {
	const all = api.MaxAmount
	return []change{
		onRights("Grower -1", func(l []api.Right) { l[1].Grower = -1 }),
		onRights("Grower 1024", func(l []api.Right) { l[1].Grower = 1024 }),
		onRights("one grower twice", func(l []api.Right) { l[2].Grower = 7 }),
		onRights("one grower twice, one after the other", func(l []api.Right) { l[0].Grower = 8 }),
		onRights("Rank -1", func(l []api.Right) { l[0].Rank = -1 }),
		onRights("Rank 256", func(l []api.Right) { l[2].Rank = 256 }),
		onRights("Share 0", func(l []api.Right) { l[0].Share = 0 }),
		onRights("Share -1", func(l []api.Right) { l[2].Share = -1 }),
		onRights("Share 1001", func(l []api.Right) { l[2].Share = 1001 }),
		onRights("Most -1", func(l []api.Right) { l[0].Most = -1 }),
		onRights("Most too great", func(l []api.Right) { l[2].Most = all + 1 }),
		onRights("Total -1", func(l []api.Right) { l[0].Total = -1 }),
		onRights("Total too great", func(l []api.Right) { l[2].Total = all + 1 }),
		onRights("Share least of all", func(l []api.Right) { l[1].Share = math.MinInt }),
		onRights("Most greatest of all", func(l []api.Right) { l[1].Most = math.MaxInt }),
		{"65 rights", func(l *[]api.Right, asks *[]api.Ask, s *api.Supply) { *l = moreRights(*l, 65) }},
	}
}

func badAsks() []change {
	const all = api.MaxAmount
	return []change{
		onAsks("a grower without a right", func(asks []api.Ask) { asks[1].Grower = 9 }),
		onAsks("Grower -1", func(asks []api.Ask) { asks[1].Grower = -1 }),
		onAsks("From -1", func(asks []api.Ask) { asks[0].From = -1 }),
		onAsks("To before From", func(asks []api.Ask) { asks[2].From, asks[2].To = 3, 2 }),
		onAsks("To 128", func(asks []api.Ask) { asks[2].To = 128 }),
		onAsks("From and To 128", func(asks []api.Ask) { asks[2].From, asks[2].To = 128, 128 }),
		onAsks("From and To -1", func(asks []api.Ask) { asks[2].From, asks[2].To = -1, -1 }),
		onAsks("Amount 0", func(asks []api.Ask) { asks[0].Amount = 0 }),
		onAsks("Amount -1", func(asks []api.Ask) { asks[2].Amount = -1 }),
		onAsks("Amount too great", func(asks []api.Ask) { asks[2].Amount = all + 1 }),
		{"129 asks", func(l *[]api.Right, asks *[]api.Ask, s *api.Supply) { *asks = slices.Repeat((*asks)[:1], 129) }},
		{"asks without rights", func(l *[]api.Right, asks *[]api.Ask, s *api.Supply) { *l = nil }},
	}
}

func badSupplies() []change {
	const all = api.MaxAmount
	return []change{
		onSupply("129 slots", func(s *api.Supply) { s.Water = make([]int, 129) }),
		onSupply("Water -1", func(s *api.Supply) { s.Water[2] = -1 }),
		onSupply("Water too great", func(s *api.Supply) { s.Water[0] = all + 1 }),
		onSupply("Store -1", func(s *api.Supply) { s.Store = -1 }),
		onSupply("Store too great", func(s *api.Supply) { s.Store = all + 1 }),
	}
}

func goodOnes() []change {
	const all = api.MaxAmount
	return []change{
		onRights("as it is", func(l []api.Right) {}),
		onRights("greatest right", func(l []api.Right) {
			l[1] = api.Right{Grower: 8, Rank: 255, Share: 1000, Most: all, Total: all}
		}),
		onRights("least right", func(l []api.Right) { l[1] = api.Right{Grower: 8, Share: 1} }),
		{"growers 0 and 1023", func(l *[]api.Right, asks *[]api.Ask, s *api.Supply) {
			(*l)[0].Grower, (*l)[2].Grower = 0, 1023
			(*asks)[0].Grower, (*asks)[2].Grower = 1023, 0
		}},
		{"64 rights", func(l *[]api.Right, asks *[]api.Ask, s *api.Supply) { *l = moreRights(*l, 64) }},
		onAsks("slots 0 to 127", func(asks []api.Ask) { asks[0].From, asks[0].To = 0, 127 }),
		onAsks("slot 127", func(asks []api.Ask) { asks[0].From, asks[0].To = 127, 127 }),
		onAsks("Amount 1", func(asks []api.Ask) { asks[0].Amount = 1 }),
		onAsks("Amount greatest", func(asks []api.Ask) { asks[0].Amount = all }),
		{"128 asks", func(l *[]api.Right, asks *[]api.Ask, s *api.Supply) { *asks = slices.Repeat((*asks)[:1], 128) }},
		{"no asks", func(l *[]api.Right, asks *[]api.Ask, s *api.Supply) { *asks = nil }},
		onSupply("no slots", func(s *api.Supply) { s.Water = nil }),
		onSupply("128 slots", func(s *api.Supply) { s.Water = make([]int, 128) }),
		onSupply("Water greatest", func(s *api.Supply) { s.Water[1] = all }),
		onSupply("Store greatest", func(s *api.Supply) { s.Store = all }),
		onSupply("Store 0", func(s *api.Supply) { s.Store = 0 }),
	}
}

// errorsOf returns the errors of Run, Open and Slot; with an error they return nothing else.
func errorsOf(t *testing.T, name string, l []api.Right, asks []api.Ask, s api.Supply, grower, amount int) []api.Errno {
	t.Helper()
	grants, spilled, kept, e1 := turns.Run(l, asks, s)
	open, e2 := turns.Open(l, asks, s)
	slot, e3 := turns.Slot(l, asks, s, grower, amount)
	if e1 != api.OK && (len(grants) > 0 || len(spilled) > 0 || kept != 0) {
		t.Error(name, grants, spilled, kept, e1)
	}
	if e2 != api.OK && len(open) > 0 || e3 != api.OK && slot != 0 {
		t.Error(name, open, e2, slot, e3)
	}
	return []api.Errno{e1, e2, e3}
}

// P2.2 to P2.4: ErrArg unless all is valid, ahead of ErrRange.
func TestArgFirst(t *testing.T) {
	for _, x := range slices.Concat(badRights(), badAsks(), badSupplies()) {
		for _, amount := range []int{1, -1} {
			l, asks, s := example()
			x.do(&l, &asks, &s)
			if got := errorsOf(t, x.name, l, asks, s, 3, amount); !slices.Equal(got, []api.Errno{api.ErrArg, api.ErrArg, api.ErrArg}) {
				t.Error(x.name, got)
			}
		}
	}
}

// P2.2 to P2.4: what is at its limits is valid.
func TestLimitsAreValid(t *testing.T) {
	for _, x := range goodOnes() {
		l, asks, s := example()
		x.do(&l, &asks, &s)
		if got := errorsOf(t, x.name, l, asks, s, 8, 1); !slices.Equal(got, []api.Errno{api.OK, api.OK, api.OK}) {
			t.Error(x.name, got)
		}
	}
}

// P2.1: ErrArg unless rights and needs are valid, ahead of ErrRange; ErrRange unless the water is an amount.
func TestShareErrors(t *testing.T) {
	const all = api.MaxAmount
	refuses := func(name string, l []api.Right, needs []int, water int, want api.Errno) {
		t.Helper()
		if got, e := turns.Share(l, needs, water); len(got) != 0 || e != want {
			t.Error(name, needs, water, got, e)
		}
	}
	for _, x := range badRights() {
		for _, water := range []int{5, -1} {
			l, asks, s := example()
			x.do(&l, &asks, &s)
			refuses(x.name, l, make([]int, len(l)), water, api.ErrArg)
		}
	}
	l, _, _ := example()
	for _, needs := range [][]int{nil, {}, {1, 1}, {1, 1, 1, 1}, {-1, 1, 1}, {1, 1, all + 1}, {1, math.MinInt, 1}, {1, math.MaxInt, 1}} {
		refuses("needs", l, needs, 5, api.ErrArg)
		refuses("needs and water", l, needs, -1, api.ErrArg)
	}
	refuses("needs without rights", nil, []int{1}, 5, api.ErrArg)
	for _, water := range []int{-1, all + 1, math.MinInt, math.MaxInt} {
		refuses("water", l, []int{0, all, 1}, water, api.ErrRange)
		refuses("water for nobody", nil, nil, water, api.ErrRange)
	}
	if got, e := turns.Share(l, []int{0, all, 1}, all); !slices.Equal(got, []int{0, all - 1, 1}) || e != api.OK {
		t.Error(got, e)
	}
	if got, e := turns.Share(moreRights(l, 64), make([]int, 64), 5); sum(got) != 0 || len(got) != 64 || e != api.OK {
		t.Error(got, e)
	}
}

// P2.4: ErrRange unless the grower has a right and the amount is one, also without slots.
func TestSlotErrors(t *testing.T) {
	const all = api.MaxAmount
	for _, slots := range []int{0, 3} {
		l, asks, s := example()
		s.Water = s.Water[:slots]
		for _, x := range []struct {
			grower, amount int
			want           api.Errno
		}{
			{7, 0, api.OK}, {7, all, api.OK}, {8, 5, api.OK},
			{9, 0, api.ErrRange}, {9, 5, api.ErrRange}, {-1, 0, api.ErrRange}, {1024, 0, api.ErrRange}, {0, 0, api.ErrRange},
			{7, -1, api.ErrRange}, {7, all + 1, api.ErrRange}, {7, math.MinInt, api.ErrRange}, {7, math.MaxInt, api.ErrRange}, {9, -1, api.ErrRange},
		} {
			slot, e := turns.Slot(l, asks, s, x.grower, x.amount)
			if e != x.want || e != api.OK && slot != 0 {
				t.Error(slots, x.grower, x.amount, slot, e)
			}
		}
		if _, e := turns.Slot(nil, nil, s, 7, 0); e != api.ErrRange {
			t.Error(e)
		}
	}
}

// P1: no argument makes a function panic.
func TestNoPanic(t *testing.T) {
	r := newWorld(1, few())
	odd := []int{math.MinInt, -2, -1, 0, 1, 2, 127, 128, 255, 256, 1000, 1001, 1023, 1024, api.MaxAmount, api.MaxAmount + 1, math.MaxInt}
	strange := func(numbers ...*int) {
		for _, n := range numbers {
			if r.IntN(25) == 0 {
				*n = odd[r.IntN(len(odd))]
			}
		}
	}
	for range 5000 {
		l, asks, s := r.someOfAll()
		for i := range l {
			x := &l[i]
			strange(&x.Grower, &x.Rank, &x.Share, &x.Most, &x.Total)
		}
		for i := range asks {
			x := &asks[i]
			strange(&x.Grower, &x.From, &x.To, &x.Amount)
		}
		for i := range s.Water {
			strange(&s.Water[i])
		}
		needs := make([]int, r.IntN(7))
		for i := range needs {
			strange(&needs[i])
		}
		grower, amount := l[0].Grower, r.amount()
		strange(&s.Store, &grower, &amount)
		turns.Share(l, needs, amount)
		errorsOf(t, "strange", l, asks, s, grower, amount)
	}
}
