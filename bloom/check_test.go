package bloom_test

import (
	"math"
	"slices"
	"testing"

	"fenberry/api"
	"fenberry/bloom"
)

// expect checks what Check returns.
func expect(t *testing.T, name string, x api.Bloom, plan [][]int, want verdict) {
	t.Helper()
	cost, day, e := bloom.Check(x, plan)
	if got := (verdict{cost, day, e}); got != want {
		t.Error(name, plan, got, "instead of", want)
	}
}

// P4.2: the chapter's examples.
func TestCheckExamples(t *testing.T) {
	x := example()
	expect(t, "cheapest", x, cheapOne(), verdict{22, 3, api.OK})
	expect(t, "too many moves", x, [][]int{{0, -1, -1}, {1, 0, 0}, {1, -1, -1}}, verdict{0, 1, api.ErrLimit})
	expect(t, "too weak", x, [][]int{{0, -1, -1}, {0, 1, -1}, {-1, -1, 1}}, verdict{0, 1, api.ErrShort})
	expect(t, "not to be had", x, [][]int{{0, -1, 0}, {0, -1, 1}, {-1, -1, 1}}, verdict{0, 0, api.ErrRefuse})
}

// free returns a bloom of one colony that is always to be had, and beds that need nothing.
func free(days, beds int) api.Bloom {
	colony := api.Colony{Frames: span(7, 9), Price: 100, From: math.MinInt, To: math.MaxInt}
	return api.Bloom{Days: days, Moves: 1, Fee: 1, Colonies: []api.Colony{colony}, Beds: make([]api.BloomBed, beds)}
}

// column returns a plan of one colony.
func column(places ...int) [][]int {
	var plan [][]int
	for _, p := range places {
		plan = append(plan, []int{p})
	}
	return plan
}

// P4.2: each day on a bed costs the price, each move the fee: from Away to a bed, and from bed to bed, but not to Away, nor staying.
func TestCheckCost(t *testing.T) {
	x := free(4, 2)
	for _, c := range []struct {
		places []int
		cost   int
	}{
		{[]int{-1, -1, -1, -1}, 0},
		{[]int{0, 0, 0, 0}, 401},
		{[]int{1, 1, 1, 1}, 401},
		{[]int{0, -1, -1, -1}, 101},
		{[]int{-1, -1, -1, 1}, 101},
		{[]int{0, 1, 1, 1}, 402},
		{[]int{0, 1, 0, 1}, 404},
		{[]int{0, -1, 0, -1}, 202},
		{[]int{-1, 1, 1, -1}, 201},
		{[]int{1, -1, -1, 1}, 202},
		{[]int{1, -1, 0, 0}, 302},
	} {
		expect(t, "cost", x, column(c.places...), verdict{c.cost, 4, api.OK})
	}
	x.Fee = 0
	expect(t, "no fee", x, column(0, 1, 0, 1), verdict{400, 4, api.OK})
	x.Fee, x.Colonies[0].Price = 7, 0
	expect(t, "no price", x, column(0, 1, 1, 0), verdict{21, 4, api.OK})
	x = example()
	expect(t, "more than is needed", x, [][]int{{0, 1, -1}, {0, 1, 1}, {-1, -1, 1}}, verdict{30, 3, api.OK})
	expect(t, "one for both", x, [][]int{{0, -1, -1}, {0, -1, 1}, {1, -1, -1}}, verdict{25, 3, api.OK})
}

// P4.2: ErrRefuse on the days on which a colony is on a bed and not to be had, also on a bed that does not bloom.
func TestCheckRefuse(t *testing.T) {
	for _, c := range []struct {
		from, to int
		places   []int
		want     verdict
	}{
		{1, 2, []int{-1, 0, 0, -1}, verdict{201, 4, api.OK}},
		{1, 2, []int{0, 0, 0, -1}, verdict{0, 0, api.ErrRefuse}},
		{1, 2, []int{-1, 0, 0, 0}, verdict{0, 3, api.ErrRefuse}},
		{1, 2, []int{0, -1, -1, 0}, verdict{0, 0, api.ErrRefuse}},
		{1, 1, []int{-1, 0, -1, -1}, verdict{101, 4, api.OK}},
		{1, 1, []int{-1, 0, 0, -1}, verdict{0, 2, api.ErrRefuse}},
		{2, 1, []int{-1, -1, -1, -1}, verdict{0, 4, api.OK}},
		{2, 1, []int{-1, -1, 0, -1}, verdict{0, 2, api.ErrRefuse}},
		{2, 1, []int{-1, 0, -1, -1}, verdict{0, 1, api.ErrRefuse}},
		{math.MaxInt, math.MinInt, []int{-1, -1, -1, 0}, verdict{0, 3, api.ErrRefuse}},
		{math.MinInt, math.MaxInt, []int{0, 0, 0, 0}, verdict{401, 4, api.OK}},
		{math.MinInt, 0, []int{0, 0, 0, 0}, verdict{0, 1, api.ErrRefuse}},
		{-5, -1, []int{0, -1, -1, -1}, verdict{0, 0, api.ErrRefuse}},
		{4, 9, []int{-1, -1, -1, 0}, verdict{0, 3, api.ErrRefuse}},
	} {
		x := free(4, 1)
		x.Beds[0].To = -1
		x.Colonies[0].From, x.Colonies[0].To = c.from, c.to
		expect(t, "to be had", x, column(c.places...), c.want)
	}
}

// P4.2: ErrLimit if more than Moves colonies are moved to a bed in one night.
func TestCheckLimit(t *testing.T) {
	for _, c := range []struct {
		moves int
		plan  [][]int
		want  verdict
	}{
		{4, [][]int{{0, 0, 1, 1}, {1, 1, 0, 0}, {-1, -1, -1, -1}}, verdict{808, 3, api.OK}},
		{3, [][]int{{0, 0, 1, 1}, {0, 0, 1, 1}, {0, 0, 1, 1}}, verdict{0, 0, api.ErrLimit}},
		{3, [][]int{{0, 0, 1, -1}, {0, 0, 1, 1}, {0, 0, 1, 1}}, verdict{1104, 3, api.OK}},
		{2, [][]int{{0, 0, -1, -1}, {0, 0, 1, 1}, {1, 1, 1, 1}}, verdict{1006, 3, api.OK}},
		{2, [][]int{{0, 0, -1, -1}, {0, 0, 1, 1}, {1, 1, 0, 1}}, verdict{0, 2, api.ErrLimit}},
		{2, [][]int{{0, 0, -1, -1}, {-1, -1, 1, 1}, {-1, -1, -1, -1}}, verdict{404, 3, api.OK}},
		{1, [][]int{{0, -1, -1, -1}, {-1, -1, -1, -1}, {0, -1, -1, -1}}, verdict{202, 3, api.OK}},
		{1, [][]int{{0, -1, -1, -1}, {1, -1, -1, 1}, {1, -1, -1, 1}}, verdict{0, 1, api.ErrLimit}},
		{0, [][]int{{-1, -1, -1, -1}, {-1, -1, -1, -1}, {-1, -1, -1, -1}}, verdict{0, 3, api.OK}},
		{0, [][]int{{-1, -1, -1, -1}, {-1, -1, -1, -1}, {-1, -1, -1, 0}}, verdict{0, 2, api.ErrLimit}},
		{0, [][]int{{0, -1, -1, -1}, {-1, -1, -1, -1}, {-1, -1, -1, -1}}, verdict{0, 0, api.ErrLimit}},
	} {
		x := free(3, 2)
		x.Colonies = slices.Repeat(x.Colonies, 4)
		x.Moves = c.moves
		expect(t, "moves", x, c.plan, c.want)
	}
}

// P4.2: ErrShort if a bed that blooms has less than it needs of the least frames of all that are on it.
func TestCheckShort(t *testing.T) {
	for _, c := range []struct {
		name string
		beds []api.BloomBed
		row  []int
		want verdict
	}{
		{"just enough", []api.BloomBed{{Need: 7}}, []int{0, -1}, verdict{101, 1, api.OK}},
		{"one frame too few, though there may be more", []api.BloomBed{{Need: 8}}, []int{0, -1}, verdict{0, 0, api.ErrShort}},
		{"both together", []api.BloomBed{{Need: 14}}, []int{0, 0}, verdict{202, 1, api.OK}},
		{"both together, one frame too few", []api.BloomBed{{Need: 15}}, []int{0, 0}, verdict{0, 0, api.ErrShort}},
		{"nobody is needed", []api.BloomBed{{Need: 0}}, []int{-1, -1}, verdict{0, 1, api.OK}},
		{"somebody is needed", []api.BloomBed{{Need: 1}}, []int{-1, -1}, verdict{0, 0, api.ErrShort}},
		{"on another bed", []api.BloomBed{{Need: 1}, {}}, []int{1, 1}, verdict{0, 0, api.ErrShort}},
		{"one on each", []api.BloomBed{{Need: 7}, {Need: 7}}, []int{1, 0}, verdict{202, 1, api.OK}},
		{"the last bed", []api.BloomBed{{Need: 7}, {Need: 7}, {Need: 1}}, []int{1, 0}, verdict{0, 0, api.ErrShort}},
		{"it blooms later", []api.BloomBed{{Need: 1, From: 1, To: 1}}, []int{-1, -1}, verdict{0, 1, api.OK}},
		{"it has bloomed", []api.BloomBed{{Need: 1, From: -9, To: -1}}, []int{-1, -1}, verdict{0, 1, api.OK}},
		{"it never blooms", []api.BloomBed{{Need: 1, From: 1, To: 0}}, []int{-1, -1}, verdict{0, 1, api.OK}},
		{"it always blooms", []api.BloomBed{{Need: 1, From: math.MinInt, To: math.MaxInt}}, []int{-1, -1}, verdict{0, 0, api.ErrShort}},
	} {
		x := free(1, 0)
		x.Moves, x.Colonies, x.Beds = 2, slices.Repeat(x.Colonies, 2), c.beds
		expect(t, c.name, x, [][]int{c.row}, c.want)
	}
}

// P4.2: a bed blooms from its first day to its last one.
func TestCheckBlooming(t *testing.T) {
	for first := range 4 {
		for last := range 4 {
			x := free(4, 1)
			x.Beds[0] = api.BloomBed{From: first, To: last, Need: 7}
			for missing := range 4 {
				places := []int{0, 0, 0, 0}
				places[missing] = -1
				want := verdict{302, 4, api.OK}
				if missing == 0 || missing == 3 {
					want.cost = 301
				}
				if first <= missing && missing <= last {
					want = verdict{0, missing, api.ErrShort}
				}
				expect(t, "blooming", x, column(places...), want)
			}
		}
	}
}

// P4.2: the first day decides, and of its errors the first one: ErrRefuse, ErrLimit, ErrShort.
func TestCheckFirstError(t *testing.T) {
	x := example()
	x.Moves = 1
	for _, c := range []struct {
		plan [][]int
		want verdict
	}{
		{[][]int{{-1, 0, 0}, {-1, -1, -1}, {-1, -1, -1}}, verdict{0, 0, api.ErrRefuse}},
		{[][]int{{-1, -1, 1}, {-1, -1, -1}, {-1, -1, -1}}, verdict{0, 0, api.ErrRefuse}},
		{[][]int{{1, 1, -1}, {-1, -1, -1}, {-1, -1, -1}}, verdict{0, 0, api.ErrLimit}},
		{[][]int{{1, -1, -1}, {1, 1, 0}, {-1, 0, -1}}, verdict{0, 0, api.ErrShort}},
		{[][]int{{0, -1, -1}, {1, 0, 0}, {-1, 0, -1}}, verdict{0, 1, api.ErrLimit}},
		{[][]int{{0, -1, -1}, {0, -1, 1}, {-1, 0, 0}}, verdict{0, 2, api.ErrRefuse}},
		{[][]int{{0, -1, -1}, {0, -1, 1}, {1, -1, 0}}, verdict{0, 2, api.ErrLimit}},
		{[][]int{{0, -1, -1}, {0, -1, 1}, {0, -1, 0}}, verdict{0, 2, api.ErrShort}},
		{cheapOne(), verdict{22, 3, api.OK}},
	} {
		expect(t, "first", x, c.plan, c.want)
	}
}

// P4.2: ErrRange, with the day 0, unless the plan has the form of one, ahead of all days that are not good.
func TestCheckRange(t *testing.T) {
	good := cheapOne()
	for _, c := range []struct {
		name string
		plan [][]int
	}{
		{"none", nil},
		{"no days", [][]int{}},
		{"two days", good[:2]},
		{"four days", append(cheapOne(), []int{-1, -1, -1})},
		{"two colonies", [][]int{{0, -1}, {0, -1}, {-1, -1}}},
		{"two colonies on the last day", [][]int{{0, -1, -1}, {0, -1, 1}, {-1, -1}}},
		{"four colonies on a day", [][]int{{0, -1, -1}, {0, -1, 1, -1}, {-1, -1, 1}}},
		{"no colonies on a day", [][]int{nil, {0, -1, 1}, {-1, -1, 1}}},
		{"too great a bed", [][]int{{0, -1, -1}, {0, -1, 1}, {-1, -1, 2}}},
		{"too great a bed on the first day", [][]int{{0, 2, -1}, {0, -1, 1}, {-1, -1, 1}}},
		{"below Away", [][]int{{0, -1, -1}, {0, -2, 1}, {-1, -1, 1}}},
		{"least of all", [][]int{{0, -1, -1}, {0, -1, 1}, {math.MinInt, -1, 1}}},
		{"greatest of all", [][]int{{0, -1, -1}, {0, -1, 1}, {-1, math.MaxInt, 1}}},
		{"behind a day that is not good", [][]int{{0, -1, 0}, {0, -1, 1}, {-1, -1, 2}}},
	} {
		expect(t, c.name, example(), c.plan, verdict{0, 0, api.ErrRange})
		if l, e := bloom.Vital(example(), c.plan); len(l) != 0 || e != api.ErrRange {
			t.Error(c.name, l, e)
		}
	}
	x := free(1, 0)
	expect(t, "no beds", x, column(0), verdict{0, 0, api.ErrRange})
	expect(t, "no beds, all Away", x, column(-1), verdict{0, 1, api.OK})
	x.Colonies = nil
	expect(t, "no colonies", x, column(-1), verdict{0, 0, api.ErrRange})
	expect(t, "no colonies, no places", x, [][]int{nil}, verdict{0, 1, api.OK})
	x.Days = 0
	expect(t, "no days", x, nil, verdict{0, 0, api.OK})
	expect(t, "no days, one row", x, [][]int{nil}, verdict{0, 0, api.ErrRange})
}

// P4.2: numbers at the limits.
func TestCheckLimits(t *testing.T) {
	x := api.Bloom{Days: 14, Moves: 4, Fee: api.MaxRent}
	x.Colonies = slices.Repeat([]api.Colony{{Frames: span(api.MaxFrames, api.MaxFrames), Price: api.MaxRent, To: 13}}, 4)
	x.Beds = slices.Repeat([]api.BloomBed{{To: 13, Need: api.MaxFrames}}, 3)
	there, back := []int{0, 1, 2, 2}, []int{1, 2, 0, 0}
	var still, restless [][]int
	for range 7 {
		still = append(still, there, there)
		restless = append(restless, there, back)
	}
	expect(t, "still", x, still, verdict{(14*4 + 4) << 24, 14, api.OK})
	expect(t, "restless", x, restless, verdict{14 * 8 << 24, 14, api.OK})
	x.Colonies[0].Frames.Lo--
	expect(t, "one frame less", x, still, verdict{0, 0, api.ErrShort})
	x.Beds[0].From = 1
	expect(t, "another bed", x, restless, verdict{0, 1, api.ErrShort})
}

// P4.2: as the chapter says it, day by day.
func TestCheckIsJudge(t *testing.T) {
	counts := map[api.Errno]int{}
	eachWorld(func(seed uint64, r world) {
		x := r.someBloom()
		best, e := bestForward(x)
		for i := range 20 {
			plan := r.somePlan(x)
			if e == api.OK && i > 3 {
				plan = r.change(x, best.plan)
			}
			want := judge(x, plan)
			counts[want.e]++
			if cost, day, e := bloom.Check(x, plan); (verdict{cost, day, e}) != want {
				t.Fatal(seed, x, plan, cost, day, e, want)
			}
		}
	})
	for _, e := range []api.Errno{api.OK, api.ErrRefuse, api.ErrLimit, api.ErrShort} {
		if counts[e] < 100 {
			t.Error("too few", counts)
		}
	}
}
