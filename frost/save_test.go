package frost_test

import (
	"slices"
	"testing"

	"fenberry/api"
	"fenberry/frost"
)

// P3.2: the chapter's examples.
func TestSaveExamples(t *testing.T) {
	n, l, p := example()
	dry, weak := p, p
	dry.Water, weak.Fails = 149, 1
	for i, x := range []struct {
		p    api.Pumping
		want api.Saving
	}{
		{p, api.Saving{Safe: []int{2}, Saved: []int{0, 1}, Lost: []int{3}, Used: 150}},
		{dry, api.Saving{Safe: []int{2}, Saved: []int{0}, Lost: []int{1, 3}, Used: 60}},
		{weak, api.Saving{Safe: []int{2}, Saved: []int{0}, Lost: []int{1, 3}, Used: 60}},
	} {
		if s, e := frost.Save(n, l, x.p); !sameSaving(s, x.want) || e != api.OK {
			t.Error(i, s, e)
		}
	}
}

// P3.2: one bed: when it is in danger, from when to when it runs, and when it is too late. Used tells how many slots it runs.
func TestSaveOneBed(t *testing.T) {
	n := exactly(100, 50, 30, 60, 30, 70, 100)
	safe := api.Saving{Safe: []int{0}}
	lost := api.Saving{Lost: []int{0}}
	runs := func(slots int) api.Saving { return api.Saving{Saved: []int{0}, Used: slots} }
	for _, x := range []struct {
		name       string
		bud        int
		cold       api.Span
		lead, tail int
		want       api.Saving
	}{
		{"not as cold as the bud", 29, span(0, 0), 9, 9, safe},
		{"just as cold as the bud", 30, span(0, 0), 0, 0, runs(3)},
		{"colder than the bud", 49, span(0, 0), 0, 0, runs(3)},
		{"the bed may be colder than the night", 10, span(0, 20), 0, 0, runs(3)},
		{"but not so cold", 9, span(0, 20), 0, 0, safe},
		{"all the more if it surely is", 10, span(20, 20), 0, 0, runs(3)},
		{"one slot more", 50, span(0, 0), 0, 0, runs(4)},
		{"from the first slot to the last one", 100, span(0, 0), 0, 0, runs(7)},
		{"ahead of the first slot in danger", 30, span(0, 0), 2, 0, runs(5)},
		{"too late", 30, span(0, 0), 3, 0, lost},
		{"much too late", 30, span(0, 0), 96, 0, lost},
		{"too late in the first slot", 100, span(0, 0), 1, 0, lost},
		{"behind the last slot in danger", 30, span(0, 0), 0, 1, runs(4)},
		{"up to the last slot", 30, span(0, 0), 0, 2, runs(5)},
		{"the night is over", 30, span(0, 0), 0, 3, runs(5)},
		{"the night is long over", 30, span(0, 0), 2, 96, runs(7)},
		{"nothing to the last slot", 100, span(0, 0), 0, 96, runs(7)},
		{"least bud", -5000, span(1000, 1000), 0, 0, safe},
	} {
		l := []api.FrostBed{{Bud: x.bud, Cold: x.cold, Lead: x.lead, Tail: x.tail, Flow: 1}}
		s, e := frost.Save(n, l, api.Pumping{Pumps: []int{1}, Water: 96})
		if !sameSaving(s, x.want) || e != api.OK {
			t.Error(x.name, s, e)
		}
	}
}

// P3.2: the first slot of the night can be the only one in danger.
func TestSaveFirstSlot(t *testing.T) {
	n := exactly(0, 100, 100)
	for lead, want := range []api.Saving{{Saved: []int{0}, Used: 7}, {Lost: []int{0}}} {
		l := []api.FrostBed{{Bud: 0, Lead: lead, Flow: 7}}
		if s, e := frost.Save(n, l, api.Pumping{Pumps: []int{7}, Water: 7}); !sameSaving(s, want) || e != api.OK {
			t.Error(lead, s, e)
		}
	}
}

// P3.2: what the pumps give, and how much water there is.
func TestSavePumping(t *testing.T) {
	n := exactly(0, 0)
	l := []api.FrostBed{{Flow: 10}, {Flow: 10}, {Flow: 20}}
	for i, x := range []struct {
		pumps        []int
		fails, water int
		saved        []int
	}{
		{[]int{40}, 0, 80, []int{0, 1, 2}},
		{[]int{39}, 0, 80, []int{0, 1}},
		{[]int{40}, 0, 79, []int{0, 1}},
		{[]int{20}, 0, 40, []int{0, 1}},
		{[]int{20}, 0, 39, []int{0}},
		{[]int{19}, 0, 80, []int{0}},
		{[]int{10}, 0, 20, []int{0}},
		{[]int{10}, 0, 19, nil},
		{[]int{9}, 0, 80, nil},
		{nil, 0, 80, nil},
		{[]int{0, 0}, 0, 80, nil},
		{[]int{10, 5, 25}, 0, 80, []int{0, 1, 2}},
		{[]int{10, 5, 25}, 1, 80, []int{0}},
		{[]int{10, 5, 25}, 2, 80, nil},
		{[]int{10, 5, 25}, 3, 80, nil},
		{[]int{10, 10, 25}, 2, 80, []int{0}},
		{[]int{20, 30, 20, 30}, 2, 80, []int{0, 1, 2}},
		{[]int{40, 40}, 2, 80, nil},
		{[]int{40, 40}, 1, 80, []int{0, 1, 2}},
		{[]int{20, 5, 5, 5, 5, 5, 5, 5}, 1, 80, []int{0, 1}},
	} {
		p := api.Pumping{Pumps: x.pumps, Fails: x.fails, Water: x.water}
		s, e := frost.Save(n, l, p)
		if !slices.Equal(s.Saved, x.saved) || len(s.Safe) != 0 || len(s.Lost)+len(s.Saved) != 3 || e != api.OK {
			t.Error(i, s, e)
		}
	}
}

// P3.2: of several sets the one with the most beds, of these the one with the least water, of these the first one.
func TestSaveWhich(t *testing.T) {
	n := exactly(0, 0, 0, 0)
	for i, x := range []struct {
		flows       []int
		pump, water int
		saved, lost []int
		used        int
	}{
		{[]int{10, 4, 4}, 10, 1000, []int{1, 2}, []int{0}, 32},
		{[]int{5, 4, 3}, 5, 1000, []int{2}, []int{0, 1}, 12},
		{[]int{5, 4, 3}, 1000, 20, []int{2}, []int{0, 1}, 12},
		{[]int{5, 4, 3}, 8, 1000, []int{1, 2}, []int{0}, 28},
		{[]int{3, 4, 5}, 8, 1000, []int{0, 1}, []int{2}, 28},
		{[]int{4, 4, 4}, 4, 1000, []int{0}, []int{1, 2}, 16},
		{[]int{4, 4, 4}, 8, 1000, []int{0, 1}, []int{2}, 32},
		{[]int{1, 2, 2, 1}, 3, 1000, []int{0, 3}, []int{1, 2}, 8},
		{[]int{1, 4, 2, 3}, 5, 1000, []int{0, 2}, []int{1, 3}, 12},
		{[]int{4, 2, 3, 1, 9}, 5, 1000, []int{1, 3}, []int{0, 2, 4}, 12},
		{[]int{3, 1, 2, 2, 2}, 6, 1000, []int{1, 2, 3}, []int{0, 4}, 20},
		{[]int{7, 6, 5, 4, 3, 2, 1}, 6, 1000, []int{4, 5, 6}, []int{0, 1, 2, 3}, 24},
		{[]int{2, 1, 1, 2, 2, 1, 2, 2, 1, 2, 2, 1}, 6, 1000, []int{1, 2, 5, 8, 11}, []int{0, 3, 4, 6, 7, 9, 10}, 20},
		{[]int{2, 2, 2, 2, 2, 2, 2, 2, 2, 2, 2, 1}, 5, 1000, []int{0, 1, 11}, []int{2, 3, 4, 5, 6, 7, 8, 9, 10}, 20},
		{[]int{1, 1, 1, 1, 1, 1, 1, 1, 1, 1, 1, 1}, 12, 48, []int{0, 1, 2, 3, 4, 5, 6, 7, 8, 9, 10, 11}, nil, 48},
	} {
		var l []api.FrostBed
		for _, flow := range x.flows {
			l = append(l, api.FrostBed{Flow: flow})
		}
		want := api.Saving{Saved: x.saved, Lost: x.lost, Used: x.used}
		if s, e := frost.Save(n, l, api.Pumping{Pumps: []int{x.pump}, Water: x.water}); !sameSaving(s, want) || e != api.OK {
			t.Error(i, s, e)
		}
	}
}

// P3.2: {0, 3} and {1, 2} need the same water; the list that begins with 0 is first, though the other one's last bed is less.
func TestSaveFirstList(t *testing.T) {
	n := exactly(0, 900, 900, 900, 900, 900, 900, 900, 900, 900, 900, 900)
	l := []api.FrostBed{{Flow: 8}, {Flow: 5, Tail: 1}, {Flow: 5, Tail: 1}, {Flow: 1, Tail: 11}}
	p := api.Pumping{Pumps: []int{10}, Water: 1000}
	want := api.Saving{Saved: []int{0, 3}, Lost: []int{1, 2}, Used: 20}
	if s, e := frost.Save(n, l, p); !sameSaving(s, want) || e != api.OK {
		t.Error(s, e)
	}
	slices.Reverse(l)
	if s, e := frost.Save(n, l, p); !sameSaving(s, want) || e != api.OK {
		t.Error(s, e)
	}
	// Beds that need nothing take their places, but are not in the lists.
	l = []api.FrostBed{{Bud: -1, Flow: 1}, l[3], l[2], {Bud: -1, Flow: 1}, l[1], l[0]}
	want = api.Saving{Safe: []int{0, 3}, Saved: []int{1, 5}, Lost: []int{2, 4}, Used: 20}
	if s, e := frost.Save(n, l, p); !sameSaving(s, want) || e != api.OK {
		t.Error(s, e)
	}
}

// P3.2: of as many beds those with the least water, which are not those with the least flow.
func TestSaveLeastWater(t *testing.T) {
	n := exactly(20, 20, 60, 60)
	l := []api.FrostBed{{Bud: 40, Flow: 7}, {Bud: 20, Flow: 4}, {Bud: 60, Flow: 4}, {Bud: 40, Tail: 2, Flow: 3}}
	for pump, want := range map[int][]int{14: {0, 1, 3}, 13: {1, 2, 3}, 11: {1, 2, 3}, 10: {1, 3}, 8: {1, 3}, 7: {1, 3}, 6: {1}, 3: {3}} {
		if s, e := frost.Save(n, l, api.Pumping{Pumps: []int{pump}, Water: 1000}); !slices.Equal(s.Saved, want) || e != api.OK {
			t.Error(pump, s, e)
		}
	}
}

// P3.2: how long each bed runs decides which ones there is water for.
func TestSaveTails(t *testing.T) {
	n := exactly(0, 0, 500, 900, 900, 1400)
	l := []api.FrostBed{{Flow: 10}, {Bud: -5000, Flow: 10}, {Tail: 2, Flow: 10}, {Tail: 96, Flow: 5}}
	for i, x := range []struct {
		pump, water int
		want        api.Saving
	}{
		{25, 90, api.Saving{Safe: []int{1}, Saved: []int{0, 2, 3}, Used: 90}},
		{25, 89, api.Saving{Safe: []int{1}, Saved: []int{0, 3}, Lost: []int{2}, Used: 50}},
		{24, 90, api.Saving{Safe: []int{1}, Saved: []int{0, 3}, Lost: []int{2}, Used: 50}},
		{25, 49, api.Saving{Safe: []int{1}, Saved: []int{0}, Lost: []int{2, 3}, Used: 20}},
		{14, 90, api.Saving{Safe: []int{1}, Saved: []int{0}, Lost: []int{2, 3}, Used: 20}},
		{9, 90, api.Saving{Safe: []int{1}, Saved: []int{3}, Lost: []int{0, 2}, Used: 30}},
		{9, 29, api.Saving{Safe: []int{1}, Lost: []int{0, 2, 3}}},
	} {
		if s, e := frost.Save(n, l, api.Pumping{Pumps: []int{x.pump}, Water: x.water}); !sameSaving(s, x.want) || e != api.OK {
			t.Error(i, s, e)
		}
	}
}

// P3.2: no beds, and numbers at the limits.
func TestSaveLimits(t *testing.T) {
	n, _, p := example()
	if s, e := frost.Save(n, nil, p); !sameSaving(s, api.Saving{}) || e != api.OK {
		t.Error(s, e)
	}
	whole := api.Night{Slots: api.MaxNight}
	greatest := api.FrostBed{Bud: 5000, Cold: span(1000, 1000), Tail: 96, Flow: api.MaxPump}
	l := slices.Repeat([]api.FrostBed{greatest}, api.MaxFrostBeds)
	p = api.Pumping{Pumps: slices.Repeat([]int{api.MaxPump}, api.MaxPumps), Water: api.MaxAmount}
	want := api.Saving{Saved: []int{0, 1, 2, 3, 4, 5, 6, 7}, Lost: []int{8, 9, 10, 11}, Used: 8 * 96 << 30}
	if s, e := frost.Save(whole, l, p); !sameSaving(s, want) || e != api.OK {
		t.Error(s, e)
	}
	p.Water = 5*96<<30 - 1
	want = api.Saving{Saved: []int{0, 1, 2, 3}, Lost: []int{4, 5, 6, 7, 8, 9, 10, 11}, Used: 4 * 96 << 30}
	if s, e := frost.Save(whole, l, p); !sameSaving(s, want) || e != api.OK {
		t.Error(s, e)
	}
	p.Fails = 6
	want = api.Saving{Saved: []int{0, 1}, Lost: []int{2, 3, 4, 5, 6, 7, 8, 9, 10, 11}, Used: 2 * 96 << 30}
	if s, e := frost.Save(whole, l, p); !sameSaving(s, want) || e != api.OK {
		t.Error(s, e)
	}
}

// P3.2: as trying all sets.
func TestSaveIsBest(t *testing.T) {
	var safe, saved, lost int
	eachWorld(func(seed uint64, r world) {
		_, n, l, p := r.someOfAll()
		want := save(temperatures(n), l, p)
		if s, e := frost.Save(n, l, p); !sameSaving(s, want) || e != api.OK {
			t.Fatal(seed, n, l, p, s, e, want)
		}
		safe, saved, lost = safe+len(want.Safe), saved+len(want.Saved), lost+len(want.Lost)
	})
	if min(safe, saved, lost) < 50 {
		t.Error("too few", safe, saved, lost)
	}
}

// P3.3: the chapter's examples.
func TestHindersExamples(t *testing.T) {
	n, l, p := example()
	dry, weak := p, p
	dry.Water, weak.Fails = 149, 1
	for _, x := range []struct {
		p       api.Pumping
		set     []int
		why, at int
	}{
		{p, []int{0, 1}, api.Nothing, 0},
		{dry, []int{0, 1}, api.TooLong, 150},
		{weak, []int{0, 1}, api.TooMuch, 5},
		{p, []int{2, 3}, api.TooLate, 3},
	} {
		if why, at, e := frost.Hinders(n, l, x.p, x.set); why != x.why || at != x.at || e != api.OK {
			t.Error(x, why, at, e)
		}
	}
}

// P3.3: which hindrance is named, and where.
func TestHindersByHand(t *testing.T) {
	n := exactly(100, 100, 50, 50, 100, 20, 20, 100)
	l := []api.FrostBed{
		{Bud: 50, Flow: 10},          // 2 to 6: 50 litres
		{Bud: 20, Flow: 5, Tail: 2},  // 5 to 7: 15 litres
		{Bud: 20, Flow: 5, Lead: 6},  // from -1 on
		{Bud: 10, Flow: 99},          // needs nothing
		{Bud: 100, Flow: 1},          // 0 to 7: 8 litres
		{Bud: 100, Flow: 1, Lead: 1}, // from -1 on
		{Bud: 10, Flow: 99, Lead: 9}, // needs nothing
	}
	for i, x := range []struct {
		pump, water int
		set         []int
		why, at     int
	}{
		{100, 500, []int{0, 1, 3, 4, 6}, api.Nothing, 0},
		{100, 500, []int{0, 1, 2, 3, 4, 5, 6}, api.TooLate, 2},
		{100, 500, []int{0, 4, 5}, api.TooLate, 5},
		{0, 0, []int{0, 2, 5}, api.TooLate, 2},
		{0, 0, []int{3, 6}, api.Nothing, 0},
		{0, 0, nil, api.Nothing, 0},
		{16, 73, []int{0, 1, 4}, api.Nothing, 0},
		{16, 73, []int{0, 1, 3, 4, 6}, api.Nothing, 0},
		{16, 72, []int{0, 1, 4}, api.TooLong, 73},
		{16, 0, []int{0, 1, 4}, api.TooLong, 73},
		{15, 0, []int{0, 1, 4}, api.TooMuch, 5},
		{15, 65, []int{0, 1}, api.Nothing, 0},
		{15, 64, []int{0, 1, 3}, api.TooLong, 65},
		{10, 500, []int{0, 4}, api.TooMuch, 2},
		{9, 500, []int{0}, api.TooMuch, 2},
		{4, 500, []int{1}, api.TooMuch, 5},
		{5, 15, []int{1}, api.Nothing, 0},
		{5, 14, []int{1}, api.TooLong, 15},
		{1, 8, []int{4}, api.Nothing, 0},
		{0, 8, []int{4}, api.TooMuch, 0},
		{1, 7, []int{4}, api.TooLong, 8},
	} {
		p := api.Pumping{Pumps: []int{x.pump}, Water: x.water}
		if why, at, e := frost.Hinders(n, l, p, x.set); why != x.why || at != x.at || e != api.OK {
			t.Error(i, x, why, at, e)
		}
	}
}

// P3.3: as going through all slots.
func TestHindersIsNamed(t *testing.T) {
	var found [4]int
	eachWorld(func(seed uint64, r world) {
		_, n, l, p := r.someOfAll()
		temps := temperatures(n)
		for range 8 {
			var set []int
			for i := range l {
				if r.IntN(2) == 0 {
					set = append(set, i)
				}
			}
			p.Water = min(api.MaxAmount, p.Water/(1+r.IntN(3)))
			wantWhy, wantAt, _ := hindrance(temps, l, p, set)
			why, at, e := frost.Hinders(n, l, p, set)
			if why != wantWhy || at != wantAt || e != api.OK {
				t.Fatal(seed, set, why, at, e, wantWhy, wantAt)
			}
			found[why]++
		}
	})
	if min(found[0], found[1], found[2], found[3]) < 30 {
		t.Error("too few", found)
	}
}
