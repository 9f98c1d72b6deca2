package drum_test

import (
	"testing"

	"fenberry/api"
	"fenberry/drum"
)

// P10.2: the chapter's examples.
func TestTraceExamples(t *testing.T) {
	l := exampleEvents()
	expectTrace(t, "example", l, 0, []api.Origin{origin(5, 0, 40), origin(7, 0, 40)}, api.OK)
	expectTrace(t, "example", l, 1, []api.Origin{origin(5, 0, 90), origin(7, 0, 60), origin(9, 0, 30)}, api.OK)
	expectTrace(t, "example", l, 2, []api.Origin{origin(5, 0, 50), origin(7, 0, 50), origin(9, 0, 30)}, api.OK)
	for vessel := 3; vessel < 16; vessel++ {
		expectTrace(t, "example", l, vessel, nil, api.OK)
	}
	expectTrace(t, "parted", partedEvents(), 2, []api.Origin{origin(5, 10, 10), origin(7, 10, 10)}, api.OK)
	expectTrace(t, "parted", partedEvents(), 0, nil, api.OK)
	expectTrace(t, "parted", partedEvents(), 1, nil, api.OK)
}

// P10.2: without events, or with deliveries only, all is known; beds rise, whatever order they come in.
func TestTraceDeliveries(t *testing.T) {
	for vessel := range 16 {
		expectTrace(t, "nil", nil, vessel, nil, api.OK)
		expectTrace(t, "empty", []api.DrumEvent{}, vessel, nil, api.OK)
		expectTrace(t, "sealed", []api.DrumEvent{seal(vessel)}, vessel, nil, api.OK)
	}
	l := []api.DrumEvent{deliver(15, 1023, 7), deliver(15, 0, 1<<40-20), deliver(14, 3, 1), deliver(15, 512, 2), deliver(15, 0, 3), deliver(15, 2, 1), seal(15)}
	want := []api.Origin{origin(0, 1<<40-17, 1<<40-17), origin(2, 1, 1), origin(512, 2, 2), origin(1023, 7, 7)}
	expectTrace(t, "deliveries", l, 15, want, api.OK)
	expectTrace(t, "deliveries", l, 14, []api.Origin{origin(3, 1, 1)}, api.OK)
	var many []api.DrumEvent
	var all []api.Origin
	for i := range 64 {
		many = append(many, deliver(2, 1023-i, i+1))
		all = append(all, origin(960+i, 64-i, 64-i))
	}
	expectTrace(t, "many beds", many, 2, all, api.OK)
}

// P10.2: what is poured, and what is left, is any part of what there was.
func TestTracePours(t *testing.T) {
	two := []api.DrumEvent{deliver(0, 1, 10), deliver(0, 2, 4)}
	for amount := 1; amount <= 14; amount++ {
		part := func(n int) []api.Origin {
			all := []api.Origin{origin(1, max(0, n-4), min(n, 10)), origin(2, max(0, n-10), min(n, 4))}
			if n == 0 {
				all = nil
			}
			return all
		}
		l := with(two, pour(0, 1, amount))
		expectTrace(t, "poured", l, 1, part(amount), api.OK)
		expectTrace(t, "left", l, 0, part(14-amount), api.OK)
		expectTrace(t, "left", with(two, dump(0, amount)), 0, part(14-amount), api.OK)
		l = with(l, deliver(0, 2, 3))
		expectTrace(t, "delivered later", l, 1, part(amount), api.OK)
	}
}

// P10.2: what comes later is not in what was poured before.
func TestTraceIsInTime(t *testing.T) {
	l := []api.DrumEvent{deliver(0, 1, 10), pour(0, 1, 4), deliver(0, 2, 5), pour(0, 2, 3), deliver(1, 3, 1), pour(1, 0, 2), deliver(1, 4, 6)}
	expectTrace(t, "in time", l, 0, []api.Origin{origin(1, 4, 8), origin(2, 2, 5), origin(3, 0, 1)}, api.OK)
	expectTrace(t, "in time", l, 1, []api.Origin{origin(1, 2, 3), origin(3, 0, 1), origin(4, 6, 6)}, api.OK)
	expectTrace(t, "in time", l, 2, []api.Origin{origin(1, 0, 3), origin(2, 0, 3)}, api.OK)
	around := []api.DrumEvent{deliver(0, 1, 5), pour(0, 1, 5), pour(1, 2, 5), pour(2, 0, 5), deliver(0, 2, 5), pour(0, 1, 5)}
	expectTrace(t, "around", around, 0, []api.Origin{origin(1, 0, 5), origin(2, 0, 5)}, api.OK)
	expectTrace(t, "around", around, 2, nil, api.OK)
}

// P10.2: what comes back through another vessel may be what was left, or what was not.
func TestTraceWhatComesBack(t *testing.T) {
	l := []api.DrumEvent{deliver(0, 1, 6), deliver(0, 2, 6), pour(0, 1, 6), pour(0, 2, 3), pour(1, 2, 5), pour(2, 0, 6)}
	// Vessel 1 keeps one gram, vessel 2 keeps two; the rest is together again.
	expectTrace(t, "back", l, 1, []api.Origin{origin(1, 0, 1), origin(2, 0, 1)}, api.OK)
	expectTrace(t, "back", l, 2, []api.Origin{origin(1, 0, 2), origin(2, 0, 2)}, api.OK)
	expectTrace(t, "back", l, 0, []api.Origin{origin(1, 3, 6), origin(2, 3, 6)}, api.OK)
	// A bed that fills one of two vessels is missing in the other one: more than a way that must be taken back.
	m := []api.DrumEvent{deliver(0, 1, 4), deliver(0, 2, 4), pour(0, 1, 4), deliver(1, 3, 4), pour(1, 2, 4), pour(0, 2, 2)}
	expectTrace(t, "taken back", m, 2, []api.Origin{origin(1, 0, 4), origin(2, 0, 4), origin(3, 0, 4)}, api.OK)
	expectTrace(t, "taken back", m, 0, []api.Origin{origin(1, 0, 2), origin(2, 0, 2)}, api.OK)
}

// P10.2: the error of Play first, then ErrRange unless the vessel is one.
func TestTraceErrors(t *testing.T) {
	for _, vessel := range strangeNumbers() {
		isOne := vessel >= 0 && vessel < 16
		for _, l := range [][]api.DrumEvent{nil, exampleEvents(), {seal(3)}} {
			want := api.ErrRange
			if isOne {
				want = api.OK
			}
			if o, e := drum.Trace(l, vessel); e != want || e != api.OK && len(o) > 0 {
				t.Error(l, vessel, o, e)
			}
		}
		for _, c := range refused() {
			expectTrace(t, "refused", c.ahead, vessel, nil, c.e)
		}
	}
}

// refused returns lists of events with an error.
func refused() []refusal {
	l := exampleEvents()
	return []refusal{
		{ahead: make([]api.DrumEvent, 65), e: api.ErrLong}, {ahead: make([]api.DrumEvent, 64), e: api.ErrArg}, {ahead: with(l, deliver(0, 1024, 1)), e: api.ErrArg}, {ahead: with(l, api.DrumEvent{Kind: -1}), e: api.ErrArg},
		{ahead: with(l, pour(1, 1, 1)), e: api.ErrTwice}, {ahead: with(l, seal(2)), e: api.ErrState}, {ahead: with(l, dump(0, 41), seal(2)), e: api.ErrShort}, {ahead: with(l, deliver(0, 1, 1<<40-39)), e: api.ErrLimit},
	}
}

// P10.2, P10.6: as going through all courses; each end can be true.
func TestTraceIsJudgeOfCourses(t *testing.T) {
	sure, unsure := 0, 0
	each(900, []sizes{few()}, func(seed uint64, r world) {
		l := r.someEvents()
		want := judgeCourses(l)
		for vessel := range 16 {
			expectTrace(t, "judge", l, vessel, want.origins(vessel), api.OK)
		}
		for _, vessel := range r.vessels {
			for _, bed := range r.beds {
				if s := want[vessel][bed]; s.Lo > 0 && s.Lo < s.Hi {
					sure++
				} else if s.Lo < s.Hi {
					unsure++
				}
			}
		}
		if t.Failed() {
			t.Fatal(seed)
		}
	})
	if min(sure, unsure) < 100 {
		t.Error("too few", sure, unsure)
	}
}

// P10.2, P10.6: as going through all sets of places, with amounts up to the limits.
func TestTraceIsJudgeOfCuts(t *testing.T) {
	sure, unsure := 0, 0
	eachCut(func(seed uint64, l []api.DrumEvent, want *shares) {
		for vessel := range 16 {
			origins := want.origins(vessel)
			expectTrace(t, "judge", l, vessel, origins, api.OK)
			for _, o := range origins {
				if o.Amount.Lo > 0 && o.Amount.Lo < o.Amount.Hi {
					sure++
				} else if o.Amount.Lo < o.Amount.Hi {
					unsure++
				}
			}
		}
		if t.Failed() {
			t.Fatal(seed)
		}
	})
	if min(sure, unsure) < 100 {
		t.Error("too few", sure, unsure)
	}
}

// eachCut calls do with events of which all sets of places were gone through.
func eachCut(do func(seed uint64, l []api.DrumEvent, want *shares)) {
	each(250, []sizes{cut()}, func(seed uint64, r world) {
		l := r.someEvents()
		if newGraph(l).isSmall() {
			do(seed, l, judgeCuts(l, r.beds))
		}
	})
}

// P10.2: the judges agree.
func TestJudgesAgree(t *testing.T) {
	each(100, []sizes{few()}, func(seed uint64, r world) {
		l := r.someEvents()
		if !newGraph(l).isSmall() {
			return
		}
		a, b := judgeCourses(l), judgeCuts(l, r.beds)
		for place := range a {
			for _, bed := range r.beds {
				if a[place][bed] != b[place][bed] {
					t.Fatal(seed, l, place, bed, a[place][bed], b[place][bed])
				}
			}
		}
	})
}
