package turns_test

import (
	"slices"
	"testing"

	"fenberry/api"
	"fenberry/turns"
)

// P2.2, P2.3, P2.4: the chapter's examples.
func TestExamples(t *testing.T) {
	l, asks, s := example()
	want := []api.Grant{{Slot: 0, Grower: 3, Amount: 30}, {Slot: 0, Grower: 7, Amount: 14}, {Slot: 0, Grower: 8, Amount: 6}, {Slot: 1, Grower: 3, Amount: 15}, {Slot: 1, Grower: 7, Amount: 25}}
	grants, spilled, kept, e := turns.Run(l, asks, s)
	if !slices.Equal(grants, want) || !slices.Equal(spilled, []int{0, 0, 80}) || kept != 20 || e != api.OK {
		t.Error(grants, spilled, kept, e)
	}
	if open, e := turns.Open(l, asks, s); !slices.Equal(open, []int{21, 44, 0}) || e != api.OK {
		t.Error(open, e)
	}
	for amount, want := range map[int]int{0: 0, 1: 0, 14: 0, 15: 1, 39: 1, 40: 3, api.MaxAmount: 3} {
		if slot, e := turns.Slot(l, asks, s, 7, amount); slot != want || e != api.OK {
			t.Error(amount, slot, e)
		}
	}
}

// scene is a supply of one grower or of some, with what follows from it.
type scene struct {
	name    string
	l       []api.Right
	asks    []api.Ask
	s       api.Supply
	grants  []api.Grant
	spilled []int
	kept    int
	open    []int
}

func alone(most, total int) []api.Right {
	return []api.Right{{Grower: 1, Share: 1, Most: most, Total: total}}
}

func scenes() []scene {
	const all = api.MaxAmount
	two := []api.Right{{Grower: 9, Rank: 0, Share: 1, Most: all, Total: all}, {Grower: 4, Rank: 255, Share: 1, Most: all, Total: all}}
	ask := func(from, to, amount int) api.Ask { return api.Ask{Grower: 1, From: from, To: to, Amount: amount} }
	grant := func(slot, amount int) api.Grant { return api.Grant{Slot: slot, Grower: 1, Amount: amount} }
	return []scene{
		{"nothing", nil, nil, api.Supply{}, nil, nil, 0, nil},
		{"nobody", nil, nil, api.Supply{Water: []int{7, 3}, Store: 5}, nil, []int{2, 3}, 5, nil},
		{"no slots", alone(9, 9), []api.Ask{ask(0, 127, 5)}, api.Supply{Store: 4}, nil, nil, 0, []int{5}},
		{"no asks", alone(9, 9), nil, api.Supply{Water: []int{6}}, nil, []int{6}, 0, nil},
		{"Most in each slot", alone(3, 100), []api.Ask{ask(0, 9, 8)}, api.Supply{Water: []int{5, 5, 5, 5}},
			[]api.Grant{grant(0, 3), grant(1, 3), grant(2, 2)}, []int{2, 2, 3, 5}, 0, []int{0}},
		{"Most 0", alone(0, 100), []api.Ask{ask(0, 9, 8)}, api.Supply{Water: []int{5}}, nil, []int{5}, 0, []int{8}},
		{"Total", alone(3, 5), []api.Ask{ask(0, 9, 8)}, api.Supply{Water: []int{5, 5, 5}},
			[]api.Grant{grant(0, 3), grant(1, 2)}, []int{2, 3, 5}, 0, []int{3}},
		{"an ask from a slot to another one", alone(100, 100), []api.Ask{ask(1, 2, 50)}, api.Supply{Water: []int{5, 5, 5, 5}},
			[]api.Grant{grant(1, 5), grant(2, 5)}, []int{5, 0, 0, 5}, 0, []int{40}},
		{"an ask beyond the supply", alone(100, 100), []api.Ask{ask(2, 3, 50)}, api.Supply{Water: []int{5, 5}}, nil, []int{5, 5}, 0, []int{50}},
		{"what is kept", alone(100, 100), []api.Ask{ask(1, 1, 50)}, api.Supply{Water: []int{9, 5}, Store: 7}, []api.Grant{grant(1, 12)}, []int{2, 0}, 0, []int{38}},
		{"what is kept for long", alone(100, 100), []api.Ask{ask(3, 3, 6)}, api.Supply{Water: []int{9, 0, 1, 0}, Store: 7}, []api.Grant{grant(3, 6)}, []int{2, 0, 1, 0}, 1, []int{0}},
		{"the least To first", alone(9, 99), []api.Ask{ask(0, 5, 8), ask(0, 3, 8)}, api.Supply{Water: []int{10}}, []api.Grant{grant(0, 9)}, []int{1}, 0, []int{7, 0}},
		{"then the least From", alone(9, 99), []api.Ask{ask(1, 3, 8), ask(0, 3, 20)}, api.Supply{Water: []int{0, 10}}, []api.Grant{grant(1, 9)}, []int{0, 1}, 0, []int{8, 11}},
		{"To counts more than From", alone(9, 99), []api.Ask{ask(0, 4, 8), ask(1, 3, 8)}, api.Supply{Water: []int{0, 10}}, []api.Grant{grant(1, 9)}, []int{0, 1}, 0, []int{7, 0}},
		{"then the first one", alone(9, 99), []api.Ask{ask(0, 3, 5), ask(0, 3, 5), ask(0, 3, 5)}, api.Supply{Water: []int{7}}, []api.Grant{grant(0, 7)}, []int{0}, 0, []int{0, 3, 5}},
		{"an ask that is past keeps its place", alone(9, 99), []api.Ask{ask(0, 0, 5), ask(0, 1, 5)}, api.Supply{Water: []int{3, 9}}, []api.Grant{grant(0, 3), grant(1, 5)}, []int{0, 4}, 0, []int{2, 0}},
		{"the greatest of all", two, []api.Ask{{Grower: 9, From: 1, To: 1, Amount: all}, {Grower: 4, From: 1, To: 1, Amount: all}}, api.Supply{Water: []int{all, all}, Store: all},
			[]api.Grant{{Slot: 1, Grower: 4, Amount: all}, {Slot: 1, Grower: 9, Amount: all}}, []int{0, 0}, 0, []int{0, 0}},
		{"the greatest spilled", two, nil, api.Supply{Water: []int{all, all}, Store: all}, nil, []int{0, all}, all, nil},
		{"the senior one first", two, []api.Ask{{Grower: 4, To: 9, Amount: 10}, {Grower: 9, To: 9, Amount: 10}}, api.Supply{Water: []int{7, 7}},
			[]api.Grant{{Slot: 0, Grower: 9, Amount: 7}, {Slot: 1, Grower: 4, Amount: 4}, {Slot: 1, Grower: 9, Amount: 3}}, []int{0, 0}, 0, []int{6, 0}},
	}
}

// P2.2, P2.3: slots by hand, with the edges of what is kept, of Most, of Total and of the asks.
func TestScenes(t *testing.T) {
	for _, x := range scenes() {
		grants, spilled, kept, e := turns.Run(x.l, x.asks, x.s)
		if !slices.Equal(grants, x.grants) || !slices.Equal(spilled, x.spilled) || kept != x.kept || e != api.OK {
			t.Error(x.name, grants, spilled, kept, e)
		}
		if open, e := turns.Open(x.l, x.asks, x.s); !slices.Equal(open, x.open) || e != api.OK {
			t.Error(x.name, open, e)
		}
	}
}

// P2.4: amounts by hand.
func TestSlotByHand(t *testing.T) {
	const all = api.MaxAmount
	asks := []api.Ask{{Grower: 1, From: 1, To: 5, Amount: 12}}
	for _, x := range []struct {
		water        []int
		amount, want int
	}{
		{nil, 0, 0}, {nil, 1, 0}, {nil, all, 0},
		{[]int{5}, 0, 0}, {[]int{5}, 1, 1},
		{[]int{5, 5, 0, 5, 5, 5, 5}, 0, 0},
		{[]int{5, 5, 0, 5, 5, 5, 5}, 1, 1},
		{[]int{5, 5, 0, 5, 5, 5, 5}, 5, 1},
		{[]int{5, 5, 0, 5, 5, 5, 5}, 6, 3},
		{[]int{5, 5, 0, 5, 5, 5, 5}, 12, 4},
		{[]int{5, 5, 0, 5, 5, 5, 5}, 13, 7},
		{make([]int, 128), 1, 128},
	} {
		if slot, e := turns.Slot(alone(all, all), asks, api.Supply{Water: x.water}, 1, x.amount); slot != x.want || e != api.OK {
			t.Error(x.water, x.amount, slot, e)
		}
	}
	// A grower with a right, but without asks, gets nothing.
	if slot, e := turns.Slot(alone(all, all), nil, api.Supply{Water: []int{9, 9}}, 1, 1); slot != 2 || e != api.OK {
		t.Error(slot, e)
	}
}

// checkRun compares Run and Open with a player, slot by slot, and says how many grants there are.
func checkRun(t *testing.T, name any, p *player, s api.Supply) int {
	t.Helper()
	grants, spilled, kept, e := turns.Run(p.l, p.asks, s)
	var wantGrants []api.Grant
	var wantSpilled []int
	for slot := range s.Water {
		gets, over := p.pass(slot, s)
		wantGrants = append(wantGrants, grantsOf(p.l, slot, gets)...)
		wantSpilled = append(wantSpilled, over)
	}
	if !slices.Equal(grants, wantGrants) || !slices.Equal(spilled, wantSpilled) || kept != p.kept || e != api.OK {
		t.Fatal(name, grants, spilled, kept, e, wantGrants, wantSpilled, p.kept)
	}
	if open, e := turns.Open(p.l, p.asks, s); !slices.Equal(open, p.open) || e != api.OK {
		t.Fatal(name, open, e, p.open)
	}
	return len(grants)
}

// P2.2, P2.3, P4: what is played litre by litre.
func TestRunIsPlayed(t *testing.T) {
	grants := 0
	for seed := range uint64(2000) {
		l, asks, s := newWorld(seed, few()).someOfAll()
		grants += checkRun(t, seed, newPlayer(l, asks), s)
	}
	if grants < 4000 {
		t.Error("too few", grants)
	}
}

// P2.2, P2.3, P4: the same with great numbers, shared by Share.
func TestGreatRunIsPlayed(t *testing.T) {
	grants := 0
	for seed := range uint64(200) {
		l, asks, s := newWorld(seed, great()).someOfAll()
		p := newPlayer(l, asks)
		p.share = func(l []api.Right, needs []int, water int) []int {
			gets, e := turns.Share(l, needs, water)
			if e != api.OK {
				t.Fatal(seed, e)
			}
			return gets
		}
		grants += checkRun(t, seed, p, s)
	}
	if grants < 4000 {
		t.Error("too few", grants)
	}
}

// P2.2: as many rights, asks and slots as can be.
func TestRunOfAll(t *testing.T) {
	const all = api.MaxAmount
	var l []api.Right
	var asks []api.Ask
	for i := range 64 {
		l = append(l, api.Right{Grower: 1023 - i, Rank: i % 3, Share: 1000 - i, Most: all, Total: all})
		asks = append(asks, api.Ask{Grower: 1023 - i, To: 127, Amount: all}, api.Ask{Grower: 1023 - i, From: 127, To: 127, Amount: all})
	}
	s := api.Supply{Water: slices.Repeat([]int{all}, 128), Store: all}
	grants, spilled, kept, e := turns.Run(l, asks, s)
	got := map[int]int{}
	for _, g := range grants {
		got[g.Grower] += g.Amount
	}
	for _, r := range l {
		if got[r.Grower] != all {
			t.Error(r, got[r.Grower])
		}
	}
	if sum(spilled)+kept != 64*all || kept != all || e != api.OK {
		t.Error(sum(spilled), kept, e)
	}
	if slot, e := turns.Slot(l, asks, s, 1021, all); slot != 63 || e != api.OK {
		t.Error(slot, e)
	}
}

// P2.4: Slot says when the sum of a grower's grants reaches an amount.
func TestSlotIsRun(t *testing.T) {
	for seed := range uint64(1000) {
		r := newWorld(seed, few())
		l, asks, s := r.someOfAll()
		grants, _, _, _ := turns.Run(l, asks, s)
		k := r.IntN(len(l))
		amount, got := r.IntN(60), 0
		want := len(s.Water)
		for slot := range s.Water {
			got += getsIn(l, grants, slot)[k]
			if got >= amount {
				want = slot
				break
			}
		}
		if slot, e := turns.Slot(l, asks, s, l[k].Grower, amount); slot != want || e != api.OK {
			t.Fatal(seed, slot, want, e)
		}
	}
}
