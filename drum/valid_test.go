package drum_test

import (
	"testing"

	"fenberry/api"
	"fenberry/drum"
)

// ahead returns events behind which each vessel has something, and each event below can be.
func ahead() []api.DrumEvent {
	var l []api.DrumEvent
	for vessel := range 16 {
		l = append(l, deliver(vessel, 7, 1<<39))
	}
	return l
}

// takes checks that an event is taken, or refused with ErrArg by each function, also if their other arguments are beyond their ranges.
func takes(t *testing.T, name string, valid bool, v api.DrumEvent) {
	t.Helper()
	l := with(ahead(), v)
	if _, n, e := drum.Play(l); valid == (e == api.ErrArg) || !valid && n != 16 {
		t.Error(name, v, n, e)
	}
	for _, number := range []int{0, -1, 9999} {
		_, e := drum.Trace(l, number)
		_, _, f := drum.Recall(l, number)
		_, g := drum.Lost(l, number)
		for _, x := range []api.Errno{e, f, g} {
			if valid == (x == api.ErrArg) {
				t.Error(name, v, number, e, f, g)
			}
		}
	}
}

// fields checks that events of a kind may have a field from least to most, and no other one, or, if it is not used, any one.
func fields(t *testing.T, name string, v api.DrumEvent, isUsed bool, least, most int, field func(v *api.DrumEvent) *int) {
	t.Helper()
	for _, n := range append(strangeNumbers(), least-1, least, most, most+1) {
		w := v
		*field(&w) = n
		takes(t, name, !isUsed || n >= least && n <= most, w)
	}
}

func TestValidFields(t *testing.T) {
	for _, v := range []api.DrumEvent{deliver(1, 2, 3), pour(1, 2, 3), dump(1, 3), seal(1)} {
		fields(t, "vessel", v, true, 0, 15, func(v *api.DrumEvent) *int { return &v.Vessel })
		fields(t, "other", v, v.Kind == api.Pour, 0, 15, func(v *api.DrumEvent) *int { return &v.Other })
		fields(t, "bed", v, v.Kind == api.Deliver, 0, 1023, func(v *api.DrumEvent) *int { return &v.Bed })
		fields(t, "amount", v, v.Kind != api.Seal, 1, 1<<40, func(v *api.DrumEvent) *int { return &v.Amount })
	}
	full := api.DrumEvent{Vessel: 1, Other: 2, Bed: 3, Amount: 4}
	fields(t, "kind", full, true, 0, 3, func(v *api.DrumEvent) *int { return &v.Kind })
}

// R8: a field that a kind does not use makes no difference.
func TestUnusedFields(t *testing.T) {
	eachWorld(func(seed uint64, r world) {
		l := r.someEvents()
		other := with(l)
		for i, v := range other {
			strange := func() int { return r.of(strangeNumbers()) }
			switch v.Kind {
			case api.Deliver:
				other[i].Other = strange()
			case api.Pour:
				other[i].Bed = strange()
			case api.Dump:
				other[i].Other, other[i].Bed = strange(), strange()
			case api.Seal:
				other[i].Other, other[i].Bed, other[i].Amount = strange(), strange(), strange()
			}
		}
		expectSame(t, "unused", l, other, r)
		if t.Failed() {
			t.Fatal(seed)
		}
	})
}

// expectSame checks that two lists of events have the same results.
func expectSame(t *testing.T, name string, l, other []api.DrumEvent, r world) {
	t.Helper()
	v, _, e := drum.Play(l)
	expectPlay(t, name, other, v, len(other), e)
	for range 3 {
		vessel, bed := r.of(r.vessels), r.of(r.beds)
		origins, e := drum.Trace(l, vessel)
		expectTrace(t, name, other, vessel, origins, e)
		can, must, e := drum.Recall(l, bed)
		expectRecall(t, name, other, bed, can, must, e)
		lost, e := drum.Lost(l, bed)
		expectLost(t, name, other, bed, lost, e)
	}
}

// P1, R2: no function panics, and none gives a result with an error.
func TestStrangeArguments(t *testing.T) {
	errors := map[api.Errno]int{}
	for seed := range uint64(3000) {
		r := newWorld(seed, few())
		strange := func() int { return r.of(strangeNumbers()) }
		l := with(r.someEvents(), exampleEvents()...)
		v := &l[r.IntN(len(l))]
		for range r.IntN(3) {
			*[]*int{&v.Kind, &v.Vessel, &v.Other, &v.Bed, &v.Amount}[r.IntN(5)] = strange()
		}
		vessels, n, e1 := drum.Play(l)
		origins, e2 := drum.Trace(l, strange())
		can, must, e3 := drum.Recall(l, strange())
		lost, e4 := drum.Lost(l, strange())
		if e1 != api.OK && (len(vessels) > 0 || n >= len(l)) || e2 != api.OK && len(origins) > 0 || e3 != api.OK && len(can)+len(must) > 0 || e4 != api.OK && lost != (api.Span{}) {
			t.Fatal("a result with an error", seed, l)
		}
		for _, e := range []api.Errno{e1, e2, e3, e4} {
			if e1 != api.OK && e != e1 {
				t.Fatal("not the error of Play", seed, l, e1, e2, e3, e4)
			}
			errors[e]++
		}
	}
	for _, e := range []api.Errno{api.OK, api.ErrArg, api.ErrRange, api.ErrState, api.ErrShort} {
		if errors[e] < 50 {
			t.Error("too few", errors)
		}
	}
}
