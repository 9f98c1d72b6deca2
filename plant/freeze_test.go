package plant_test

import (
	"slices"
	"testing"

	"fenberry/api"
	"fenberry/plant"
)

// P9.5: the chapter's examples.
func TestFrozenExamples(t *testing.T) {
	expectFrozen(t, "example", exampleLots(), 100, []int{5, 2, 8}, api.OK)
	expectFrozen(t, "example", exampleLots(), 90, []int{6, 3, 9}, api.OK)
	expectFrozen(t, "in time", exampleLots(), 108, []int{5, 2, 7}, api.OK)
	expectFrozen(t, "too slow", exampleLots(), 107, []int{5, 2, 8}, api.OK)
}

// lot returns one that is to be frozen.
func lot(ready, due, mass int) api.Freeze { return api.Freeze{Ready: ready, Due: due, Mass: mass} }

// P9.5: in which order lots are taken, and how much of them in an hour.
func TestFrozenOrder(t *testing.T) {
	for _, c := range []struct {
		name string
		l    []api.Freeze
		rate int
		want []int
	}{
		{"no lot", nil, 1, nil},
		{"one lot", []api.Freeze{lot(0, 9, 30)}, 10, []int{3}},
		{"a gram more", []api.Freeze{lot(0, 9, 31)}, 10, []int{4}},
		{"ready later", []api.Freeze{lot(7, 9, 30)}, 10, []int{10}},
		{"the one that is due first", []api.Freeze{lot(0, 9, 10), lot(0, 8, 10), lot(0, 7, 10)}, 10, []int{3, 2, 1}},
		{"of several the first one", []api.Freeze{lot(0, 9, 10), lot(0, 9, 10), lot(0, 9, 10)}, 10, []int{1, 2, 3}},
		{"also if a later one is ready first", []api.Freeze{lot(1, 9, 10), lot(0, 9, 20)}, 10, []int{2, 3}},
		{"the next one with what is left of the hour", []api.Freeze{lot(0, 9, 15), lot(0, 9, 5), lot(0, 9, 1)}, 10, []int{2, 2, 3}},
		{"many in one hour", []api.Freeze{lot(0, 9, 3), lot(0, 8, 3), lot(0, 7, 4), lot(0, 6, 1)}, 10, []int{2, 1, 1, 1}},
		{"what is left of an hour is not kept", []api.Freeze{lot(0, 9, 1), lot(1, 9, 20)}, 10, []int{1, 3}},
		{"one that is due earlier comes in between", []api.Freeze{lot(0, 9, 30), lot(1, 5, 10)}, 10, []int{4, 2}},
		{"one that is due later does not", []api.Freeze{lot(0, 9, 30), lot(1, 12, 10)}, 10, []int{3, 4}},
		{"nor one that is due as early, but is behind it", []api.Freeze{lot(0, 9, 30), lot(1, 9, 10)}, 10, []int{3, 4}},
		{"late lots are still ahead", []api.Freeze{lot(0, 1, 50), lot(2, 6, 10)}, 10, []int{5, 6}},
		{"nothing to do for some hours", []api.Freeze{lot(0, 3, 10), lot(100, 103, 10), lot(50, 52, 10)}, 10, []int{1, 101, 51}},
		{"no grams", []api.Freeze{lot(3, 3, 0), lot(0, 9, 0), lot(500, 500, 0)}, 1, []int{3, 0, 500}},
		{"no grams take no room", []api.Freeze{lot(0, 0, 0), lot(0, 9, 10), lot(0, 1, 0)}, 10, []int{0, 1, 0}},
		{"ready and due in one hour", []api.Freeze{lot(3, 3, 1)}, 1, []int{4}},
		{"the last hour", []api.Freeze{lot(499, 500, 1)}, 1, []int{500}},
		{"behind the last hour", []api.Freeze{lot(499, 500, 2)}, 1, []int{501}},
		{"behind the last hour", []api.Freeze{lot(500, 500, 1)}, 1 << 44, []int{501}},
		{"all hours", []api.Freeze{lot(0, 500, 500)}, 1, []int{500}},
		{"all hours", []api.Freeze{lot(0, 500, 501)}, 1, []int{501}},
		{"no turn at all", []api.Freeze{lot(0, 500, 1), lot(0, 499, 1<<40)}, 1, []int{501, 501}},
		{"the least rate", exampleLots(), 1, []int{500, 200, 501}},
		{"the greatest rate", slices.Repeat([]api.Freeze{lot(7, 9, 1<<40)}, 16), 1 << 44, slices.Repeat([]int{8}, 16)},
		{"a gram less", slices.Repeat([]api.Freeze{lot(7, 9, 1<<40)}, 16), 1<<44 - 1, append(slices.Repeat([]int{8}, 15), 9)},
	} {
		expectFrozen(t, c.name, c.l, c.rate, c.want, api.OK)
	}
}

// P9.5: as by freezing gram by gram, and as by giving room to lot by lot.
func TestFrozenIsJudge(t *testing.T) {
	eachSmall(func(seed uint64, r world) {
		l := r.someLots()
		rate := r.someRate()
		expectFrozen(t, "gram by gram", l, rate, judgeFrozen(l, rate), api.OK)
		if t.Failed() {
			t.Fatal(seed)
		}
	})
	late, never := 0, 0
	eachWorld(func(seed uint64, r world) {
		l := r.someLots()
		for range 5 {
			rate := r.someRate()
			want := judgeByLots(l, rate)
			expectFrozen(t, "lot by lot", l, rate, want, api.OK)
			if !isInTime(l, want) {
				late++
			}
			if slices.Contains(want, 501) {
				never++
			}
		}
		if t.Failed() {
			t.Fatal(seed)
		}
	})
	if min(late, never) < 100 {
		t.Error("too few", late, never)
	}
}

// P9.5: a thousand million times as much at a thousand million times the rate takes as long.
func TestFrozenOfMore(t *testing.T) {
	eachSmall(func(seed uint64, r world) {
		l := r.someLots()
		rate := r.someRate()
		want := judgeFrozen(l, rate)
		for i := range l {
			l[i].Mass *= 1 << 30
		}
		expectFrozen(t, "more", l, rate<<30, want, api.OK)
	})
}

// P9.6: the chapter's example, and edges.
func TestRateByHand(t *testing.T) {
	most := lot(3, 4, 1<<40)
	for _, c := range []struct {
		name string
		l    []api.Freeze
		want int
	}{
		{"example", exampleLots(), 108},
		{"no lot", nil, 1},
		{"no grams", []api.Freeze{lot(0, 5, 0)}, 1},
		{"no grams and no hour", []api.Freeze{lot(3, 3, 0), lot(500, 500, 0), lot(0, 0, 0)}, 1},
		{"one gram", []api.Freeze{lot(0, 500, 1)}, 1},
		{"rounded up", []api.Freeze{lot(0, 3, 10)}, 4},
		{"exactly", []api.Freeze{lot(0, 3, 9)}, 3},
		{"one hour", []api.Freeze{lot(499, 500, 77)}, 77},
		{"both in the same hours", []api.Freeze{lot(1, 3, 10), lot(1, 3, 9)}, 10},
		{"one after the other", []api.Freeze{lot(1, 3, 10), lot(3, 5, 10)}, 5},
		{"one within the other", []api.Freeze{lot(0, 10, 30), lot(4, 6, 20)}, 10},
		{"one within the other", []api.Freeze{lot(0, 10, 90), lot(4, 6, 20)}, 11},
		{"one beside the other", []api.Freeze{lot(0, 4, 20), lot(2, 6, 20)}, 7},
		{"apart", []api.Freeze{lot(0, 4, 20), lot(100, 101, 6)}, 6},
		{"from the one's hour to the other's", []api.Freeze{lot(2, 9, 20), lot(0, 8, 20), lot(5, 6, 1), lot(0, 1, 3)}, 5},
		{"greatest", slices.Repeat([]api.Freeze{most}, 16), 1 << 44},
		{"greatest in all hours", slices.Repeat([]api.Freeze{lot(0, 500, 1<<40)}, 16), 35184372089},
	} {
		expectRate(t, c.name, c.l, c.want, api.OK)
	}
	for _, l := range [][]api.Freeze{{lot(3, 3, 1)}, {lot(0, 5, 10), lot(500, 500, 1)}, {lot(0, 0, 1<<40), most}} {
		expectRate(t, "no hour", l, 0, api.ErrNone)
	}
}

// P9.6: as by trying all rates.
func TestRateIsJudge(t *testing.T) {
	different := map[int]bool{}
	eachSmall(func(seed uint64, r world) {
		l := r.someLots()
		if len(l) > 0 && r.IntN(10) == 0 {
			l[0].Ready = l[0].Due
		}
		want, wantError := judgeRate(l, 60)
		expectRate(t, "judge", l, want, wantError)
		different[want] = true
		if t.Failed() {
			t.Fatal(seed)
		}
	})
	if len(different) < 15 || !different[0] {
		t.Error("too few", different)
	}
}

// P9.6: with the rate no lot is late, with one less there is one.
func TestRateIsLeast(t *testing.T) {
	some := 0
	eachWorld(func(seed uint64, r world) {
		l := r.someLots()
		rate, e := plant.Rate(l)
		if e != api.OK || rate < 1 || !isInTime(l, judgeByLots(l, rate)) {
			t.Fatal(seed, l, rate, e)
		}
		if rate > 1 && isInTime(l, judgeByLots(l, rate-1)) {
			t.Fatal(seed, l, rate)
		}
		done, _ := plant.Frozen(l, rate)
		if !isInTime(l, done) {
			t.Fatal(seed, l, rate, done)
		}
		if rate > 1 {
			some++
		}
	})
	if some < 500 {
		t.Error("too few", some)
	}
}

// P9.10: no lot is late just if, for each two hours, what has to be frozen between them is no more than can be.
func TestFrozenInTime(t *testing.T) {
	late, inTime := 0, 0
	eachWorld(func(seed uint64, r world) {
		l := r.someLots()
		least, _ := plant.Rate(l)
		for _, rate := range []int{r.someRate(), least, least - 1, least + 1, r.between(1, least)} {
			if rate < 1 || rate > 1<<44 {
				continue
			}
			done, _ := plant.Frozen(l, rate)
			if isInTime(l, done) != isRoomFor(l, rate) {
				t.Fatal(seed, l, rate, done)
			}
			if isInTime(l, done) {
				inTime++
			} else {
				late++
			}
		}
	})
	if min(late, inTime) < 500 {
		t.Error("too few", late, inTime)
	}
}

// isRoomFor tells whether no two hours have more to be frozen between them than can be.
func isRoomFor(l []api.Freeze, rate int) bool {
	for _, first := range l {
		for _, last := range l {
			n := 0
			for _, x := range l {
				if x.Ready >= first.Ready && x.Due <= last.Due {
					n += x.Mass
				}
			}
			if hours := last.Due - first.Ready; hours >= 0 && n > hours*rate {
				return false
			}
		}
	}
	return true
}

// state is the hour, and what is left of up to three lots.
type state struct {
	hour int
	left [3]int
}

// anyWay tells whether there is a way to freeze up to three lots in time, whatever the freezer takes in each hour.
func anyWay(l []api.Freeze, rate int, s state, known map[state]bool) bool {
	if way, ok := known[s]; ok {
		return way
	}
	way := s.left == [3]int{}
	for i, x := range l {
		if s.left[i] > 0 && s.hour >= x.Due {
			known[s] = false
			return false
		}
	}
	for a := 0; a <= s.left[0] && !way; a++ {
		for b := 0; b <= s.left[1] && !way; b++ {
			for c := 0; c <= s.left[2] && !way; c++ {
				next := state{s.hour + 1, [3]int{s.left[0] - a, s.left[1] - b, s.left[2] - c}}
				way = a+b+c <= rate && isReady(l, s, next) && anyWay(l, rate, next, known)
			}
		}
	}
	known[s] = way
	return way
}

// isReady tells whether nothing is frozen that is not there.
func isReady(l []api.Freeze, s, next state) bool {
	for i, x := range l {
		if x.Ready > s.hour && s.left[i] != next.left[i] {
			return false
		}
	}
	return true
}

// P9.10: if any way is in time for all lots, this one is.
func TestNoOtherWayIsBetter(t *testing.T) {
	late, inTime := 0, 0
	for seed := range uint64(1500) {
		r := newWorld(seed, sizes{lots: 3, hours: 5, mass: 5})
		l := r.someLots()
		left := [3]int{}
		for i, x := range l {
			left[i] = x.Mass
		}
		rate := r.between(1, 5)
		done, _ := plant.Frozen(l, rate)
		way := anyWay(l, rate, state{left: left}, map[state]bool{})
		if isInTime(l, done) != way {
			t.Fatal(seed, l, rate, done, way)
		}
		if way {
			inTime++
		} else {
			late++
		}
	}
	if min(late, inTime) < 200 {
		t.Error("too few", late, inTime)
	}
}

// P9.10: with a greater rate no lot is frozen later.
func TestFasterIsNoLater(t *testing.T) {
	sooner := 0
	eachWorld(func(seed uint64, r world) {
		l := r.someLots()
		rate := r.someRate()
		slow, _ := plant.Frozen(l, rate)
		for _, faster := range []int{rate + 1, rate + r.someRate(), 1 << 44} {
			fast, _ := plant.Frozen(l, faster)
			for i := range l {
				if fast[i] > slow[i] {
					t.Fatal(seed, l, rate, slow, faster, fast)
				}
				if fast[i] < slow[i] {
					sooner++
				}
			}
		}
	})
	if sooner < 1000 {
		t.Error("too few", sooner)
	}
}
