package drum_test

import (
	"slices"
	"testing"

	"fenberry/api"
	"fenberry/drum"
)

// P10.3, P10.4: the chapter's examples.
func TestRecallExamples(t *testing.T) {
	l := exampleEvents()
	expectRecall(t, "example", l, 5, []int{0, 1, 2}, nil, api.OK)
	expectRecall(t, "example", l, 7, []int{0, 1, 2}, nil, api.OK)
	expectRecall(t, "example", l, 9, []int{1, 2}, nil, api.OK)
	expectRecall(t, "example", l, 8, nil, nil, api.OK)
	for _, bed := range []int{5, 7, 9} {
		expectLost(t, "example", l, bed, span(0, 10), api.OK)
	}
	expectLost(t, "example", l, 8, span(0, 0), api.OK)
	expectRecall(t, "parted", partedEvents(), 7, []int{2}, []int{2}, api.OK)
	expectLost(t, "parted", partedEvents(), 7, span(0, 0), api.OK)
}

// P10.3, P10.4: without events nothing is anywhere.
func TestRecallNothing(t *testing.T) {
	for _, bed := range []int{0, 1, 1023} {
		for _, l := range [][]api.DrumEvent{nil, {}, {seal(0)}, {deliver(0, 2, 5)}} {
			expectRecall(t, "nothing", l, bed, nil, nil, api.OK)
			expectLost(t, "nothing", l, bed, span(0, 0), api.OK)
		}
	}
}

// P10.3: vessels in which some must be, and those in which some can be; also sealed ones, and the last one.
func TestRecallMust(t *testing.T) {
	var l []api.DrumEvent
	for vessel := 15; vessel >= 0; vessel-- {
		l = append(l, deliver(vessel, 8, 3), deliver(vessel, 1023, 3), seal(vessel))
	}
	expectRecall(t, "all", l, 8, numbers(16), numbers(16), api.OK)
	expectRecall(t, "all", l, 1023, numbers(16), numbers(16), api.OK)
	l = []api.DrumEvent{deliver(9, 8, 6), deliver(9, 2, 3), pour(9, 4, 4), seal(4), pour(9, 12, 2)}
	expectRecall(t, "most", l, 8, []int{4, 9, 12}, []int{4}, api.OK)
	expectRecall(t, "fewer", l, 2, []int{4, 9, 12}, nil, api.OK)
	// All three of the bed 2 cannot be in the vessel 4 only if something else is there.
	l = with(l, dump(9, 3))
	expectRecall(t, "dumped", l, 8, []int{4, 12}, []int{4}, api.OK)
	// What was there and is gone is not recalled.
	gone := []api.DrumEvent{deliver(3, 8, 5), pour(3, 6, 5), deliver(3, 2, 5), dump(6, 5), deliver(6, 2, 1)}
	expectRecall(t, "gone", gone, 8, nil, nil, api.OK)
	expectLost(t, "gone", gone, 8, span(5, 5), api.OK)
}

// P10.4: what is thrown away in several dumps is one amount.
func TestLostInAll(t *testing.T) {
	l := []api.DrumEvent{deliver(0, 1, 10), deliver(0, 2, 10), dump(0, 4), pour(0, 1, 8), dump(1, 5), dump(0, 5)}
	expectLost(t, "dumps", l, 1, span(4, 10), api.OK)
	expectLost(t, "dumps", l, 2, span(4, 10), api.OK)
	expectLost(t, "one", []api.DrumEvent{deliver(0, 1, 10), dump(0, 4), deliver(0, 1, 6), dump(0, 1)}, 1, span(5, 5), api.OK)
	expectLost(t, "all", []api.DrumEvent{deliver(0, 1, 1<<40), dump(0, 1<<40), deliver(0, 1, 1<<40), dump(0, 1<<40)}, 1, span(1<<41, 1<<41), api.OK)
	expectLost(t, "before", []api.DrumEvent{deliver(0, 1, 10), dump(0, 4), deliver(0, 2, 10)}, 2, span(0, 0), api.OK)
	expectLost(t, "between", []api.DrumEvent{deliver(0, 1, 10), dump(0, 4), deliver(0, 2, 10), dump(0, 8)}, 2, span(2, 8), api.OK)
	expectLost(t, "between", []api.DrumEvent{deliver(0, 1, 10), dump(0, 4), deliver(0, 2, 10), dump(0, 8)}, 1, span(4, 10), api.OK)
}

// P10.3, P10.4: the error of Play first, then ErrRange unless the bed is one.
func TestRecallErrors(t *testing.T) {
	for _, bed := range strangeNumbers() {
		want := api.ErrRange
		if bed >= 0 && bed <= 1023 {
			want = api.OK
		}
		for _, l := range [][]api.DrumEvent{nil, exampleEvents(), {deliver(0, 2, 5), dump(0, 3)}} {
			if can, must, e := drum.Recall(l, bed); e != want || e != api.OK && len(can)+len(must) > 0 {
				t.Error(l, bed, can, must, e)
			}
			if s, e := drum.Lost(l, bed); e != want || e != api.OK && s != span(0, 0) {
				t.Error(l, bed, s, e)
			}
		}
		for _, c := range refused() {
			expectRecall(t, "refused", c.ahead, bed, nil, nil, c.e)
			expectLost(t, "refused", c.ahead, bed, api.Span{}, c.e)
		}
	}
}

// P10.3, P10.4: as going through all courses.
func TestRecallIsJudgeOfCourses(t *testing.T) {
	cans, musts, lost := 0, 0, 0
	each(900, []sizes{few()}, func(seed uint64, r world) {
		l := r.someEvents()
		want := judgeCourses(l)
		for _, bed := range append(r.beds, 77) {
			can, must := want.recalled(bed)
			expectRecall(t, "judge", l, bed, can, must, api.OK)
			expectLost(t, "judge", l, bed, want[waste][bed], api.OK)
			cans += len(can) - len(must)
			musts += len(must)
			if s := want[waste][bed]; 0 < s.Lo && s.Lo < s.Hi {
				lost++
			}
		}
		if t.Failed() {
			t.Fatal(seed)
		}
	})
	if min(cans, musts, lost) < 50 {
		t.Error("too few", cans, musts, lost)
	}
}

// P10.3, P10.4: as going through all sets of places, with amounts up to the limits.
func TestRecallIsJudgeOfCuts(t *testing.T) {
	lost := 0
	eachCut(func(seed uint64, l []api.DrumEvent, want *shares) {
		for _, bed := range cut().beds {
			can, must := want.recalled(bed)
			expectRecall(t, "judge", l, bed, can, must, api.OK)
			expectLost(t, "judge", l, bed, want[waste][bed], api.OK)
			if s := want[waste][bed]; 0 < s.Lo && s.Lo < s.Hi {
				lost++
			}
		}
		if t.Failed() {
			t.Fatal(seed)
		}
	})
	if lost < 20 {
		t.Error("too few", lost)
	}
}

// P10.2, P10.3: Recall and Trace tell the same.
func TestRecallIsTrace(t *testing.T) {
	eachWorld(func(seed uint64, r world) {
		l := r.someEvents()
		can, must := map[int][]int{}, map[int][]int{}
		beds := map[int]bool{r.of(r.beds): true}
		for vessel := range 16 {
			origins, _ := drum.Trace(l, vessel)
			for _, o := range origins {
				can[o.Bed] = append(can[o.Bed], vessel)
				if o.Amount.Lo > 0 {
					must[o.Bed] = append(must[o.Bed], vessel)
				}
				beds[o.Bed] = true
			}
			if !slices.IsSortedFunc(origins, func(a, b api.Origin) int { return a.Bed - b.Bed }) {
				t.Error("not rising", l, vessel, origins)
			}
		}
		for bed := range beds {
			expectRecall(t, "trace", l, bed, can[bed], must[bed], api.OK)
		}
		if t.Failed() {
			t.Fatal(seed)
		}
	})
}
