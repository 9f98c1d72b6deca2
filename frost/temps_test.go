package frost_test

import (
	"slices"
	"testing"

	"fenberry/api"
	"fenberry/frost"
)

// P3.1: the chapter's example.
func TestTempsExample(t *testing.T) {
	n, _, _ := example()
	want := []api.Span{span(270, 320), span(170, 420), span(70, 320), span(-30, 220), span(70, 120), span(-30, 320), span(-130, 520), span(-230, 720)}
	if s, e := frost.Temps(n); !slices.Equal(s, want) || e != api.OK {
		t.Error(s, e)
	}
}

// P3.1: nights by hand.
func TestTempsByHand(t *testing.T) {
	all := span(-5000, 5000)
	at := func(slot, value int) api.Reading { return api.Reading{Slot: slot, Value: value} }
	for _, x := range []struct {
		name       string
		slots      int
		fall, rise int
		bias       api.Span
		readings   []api.Reading
		want       []api.Span // nil: there is no course
	}{
		{"no reading", 2, 10, 20, span(0, 0), nil, []api.Span{all, all}},
		{"one slot", 1, 10, 20, span(-3, 5), []api.Reading{at(0, 7)}, []api.Span{span(2, 10)}},
		{"a bias that is surely above 0", 1, 10, 20, span(3, 5), []api.Reading{at(0, 7)}, []api.Span{span(2, 4)}},
		{"a bias that is surely below 0", 1, 10, 20, span(-5, -3), []api.Reading{at(0, 7)}, []api.Span{span(10, 12)}},
		{"behind a reading", 3, 10, 20, span(0, 0), []api.Reading{at(0, 0)}, []api.Span{span(0, 0), span(-10, 20), span(-20, 40)}},
		{"ahead of a reading", 3, 10, 20, span(0, 0), []api.Reading{at(2, 0)}, []api.Span{span(-40, 20), span(-20, 10), span(0, 0)}},
		{"no change", 3, 0, 0, span(-1, 1), []api.Reading{at(0, 0), at(2, 1)}, []api.Span{span(0, 1), span(0, 1), span(0, 1)}},
		{"only falling", 3, 5, 0, span(0, 0), []api.Reading{at(1, 0)}, []api.Span{span(0, 5), span(0, 0), span(-5, 0)}},
		{"only rising", 3, 0, 5, span(0, 0), []api.Reading{at(1, 0)}, []api.Span{span(-5, 0), span(0, 0), span(0, 5)}},
		{"a fall that is just possible", 3, 10, 20, span(0, 0), []api.Reading{at(0, 0), at(2, -20)}, []api.Span{span(0, 0), span(-10, -10), span(-20, -20)}},
		{"a fall that is too great", 3, 10, 20, span(0, 0), []api.Reading{at(0, 0), at(2, -21)}, nil},
		{"a rise that is just possible", 3, 10, 20, span(0, 0), []api.Reading{at(2, 40), at(0, 0)}, []api.Span{span(0, 0), span(20, 20), span(40, 40)}},
		{"a rise that is too great", 3, 10, 20, span(0, 0), []api.Reading{at(2, 41), at(0, 0)}, nil},
		{"two readings of a slot have biases of their own", 1, 10, 20, span(-2, 3), []api.Reading{at(0, 0), at(0, 5)}, []api.Span{span(2, 2)}},
		{"two readings of a slot that contradict each other", 1, 10, 20, span(-2, 3), []api.Reading{at(0, 0), at(0, 6)}, nil},
		{"far readings bound nearer ones", 4, 10, 20, span(-30, 30), []api.Reading{at(1, 50), at(3, -20)}, []api.Span{span(0, 40), span(20, 30), span(10, 20), span(0, 10)}},
		{"near the greatest", 3, 10, 20, span(-1000, 30), []api.Reading{at(1, 4990)}, []api.Span{span(4940, 5000), span(4960, 5000), span(4950, 5000)}},
		{"near the least", 3, 10, 20, span(-30, 1000), []api.Reading{at(1, -4990)}, []api.Span{span(-5000, -4950), span(-5000, -4960), span(-5000, -4940)}},
		{"just the greatest", 2, 10, 20, span(-1000, -10), []api.Reading{at(1, 4990)}, []api.Span{span(4980, 5000), span(5000, 5000)}},
		{"above the greatest", 2, 10, 20, span(-1000, -11), []api.Reading{at(1, 4990)}, nil},
		{"just the least", 2, 10, 20, span(10, 1000), []api.Reading{at(1, -4990)}, []api.Span{span(-5000, -4990), span(-5000, -5000)}},
		{"below the least", 2, 10, 20, span(11, 1000), []api.Reading{at(1, -4990)}, nil},
	} {
		n := api.Night{Slots: x.slots, Fall: x.fall, Rise: x.rise, Sensors: []api.Span{span(0, 0), x.bias}, Readings: x.readings}
		for i := range n.Readings {
			n.Readings[i].Sensor = 1
		}
		want := api.OK
		if x.want == nil {
			want = api.ErrState
		}
		if s, e := frost.Temps(n); !slices.Equal(s, x.want) || e != want {
			t.Error(x.name, s, e)
		}
	}
}

// P3.1: each reading is shifted by the bias of its own sensor.
func TestTempsOfSensors(t *testing.T) {
	n := api.Night{
		Slots: 3, Fall: 1, Rise: 1,
		Sensors:  []api.Span{span(100, 101), span(-50, -48), span(0, 0)},
		Readings: []api.Reading{{Sensor: 1, Slot: 2, Value: 10}, {Sensor: 0, Slot: 0, Value: 160}},
	}
	want := []api.Span{span(59, 60), span(58, 61), span(58, 60)}
	if s, e := frost.Temps(n); !slices.Equal(s, want) || e != api.OK {
		t.Error(s, e)
	}
}

// P3.1, P3.7: the spans are those of all courses; with readings that contradict each other there is none.
func TestTempsAreThoseOfCourses(t *testing.T) {
	none := 0
	eachWorld(func(seed uint64, r world) {
		_, n, _, _ := r.someOfAll()
		for i := range n.Readings {
			if r.IntN(3*len(n.Readings)) == 0 {
				x := &n.Readings[i].Value
				*x = max(-api.MaxDegree, min(api.MaxDegree, *x+r.between(-2*r.bias, 2*r.bias)))
			}
		}
		s, e := frost.Temps(n)
		want := temperatures(n)
		if !slices.Equal(s, want) || (e == api.OK) != (want != nil) || e != api.OK && e != api.ErrState {
			t.Fatal(seed, n, s, e, want)
		}
		if want == nil {
			none++
		}
	})
	if none < 10 || none > 200 {
		t.Error("too few", none)
	}
}

// P3.7: whatever the course is, and whatever the biases are, each temperature is within its span.
func TestCourseIsWithinTemps(t *testing.T) {
	eachWorld(func(seed uint64, r world) {
		course, n, _, _ := r.someOfAll()
		s, e := frost.Temps(n)
		if e != api.OK || len(s) != n.Slots {
			t.Fatal(seed, s, e)
		}
		for slot, x := range course {
			if x < s[slot].Lo || x > s[slot].Hi {
				t.Fatal(seed, slot, x, s[slot])
			}
		}
	})
}

// pinned returns the night with one more reading, that is exact.
func pinned(n api.Night, slot, value int) api.Night {
	n.Sensors = append(slices.Clone(n.Sensors), span(0, 0))
	n.Readings = append(slices.Clone(n.Readings), api.Reading{Sensor: len(n.Sensors) - 1, Slot: slot, Value: value})
	return n
}

// P3.7: each end of each span is that of a course; what is beyond is of none.
func TestEndsAreThoseOfCourses(t *testing.T) {
	s := few()
	s.sensors = api.MaxSensors - 1
	for seed := range uint64(200) {
		r := newWorld(seed, s)
		_, n, _, _ := r.someOfAll()
		temps, _ := frost.Temps(n)
		for slot, x := range temps {
			for value, want := range map[int]bool{x.Lo: true, x.Hi: true, x.Lo - 1: false, x.Hi + 1: false} {
				if value < -api.MaxDegree || value > api.MaxDegree {
					continue
				}
				if _, e := frost.Temps(pinned(n, slot, value)); (e == api.OK) != want || e != api.OK && e != api.ErrState {
					t.Fatal(seed, slot, x, value, e)
				}
			}
		}
	}
}

// P3.7: with one more reading no span is wider.
func TestOneMoreReading(t *testing.T) {
	narrower := 0
	for seed := range uint64(400) {
		r := newWorld(seed, few())
		course, n, _, _ := r.someOfAll()
		x, ok := r.someReading(n, course)
		if !ok {
			continue
		}
		a, _ := frost.Temps(n)
		n.Readings = append(n.Readings, x)
		b, e := frost.Temps(n)
		if e != api.OK {
			t.Fatal(seed, e)
		}
		for slot := range a {
			if b[slot].Lo < a[slot].Lo || b[slot].Hi > a[slot].Hi {
				t.Fatal(seed, slot, a[slot], b[slot])
			}
		}
		if !slices.Equal(a, b) {
			narrower++
		}
	}
	if narrower < 100 {
		t.Error("too few", narrower)
	}
}

// P3.4: the chapter's examples, and nights by hand.
func TestIceByHand(t *testing.T) {
	n, _, _ := example()
	cold := exactly(1, 0, -1, 1, -500, 0, 2)
	const all = api.MaxAmount
	for _, x := range []struct {
		n                     api.Night
		from, to, gain, limit int
		want                  int
		e                     api.Errno
	}{
		{n, 2, 7, 3, 8, 6, api.OK},
		{n, 2, 7, 3, 12, 0, api.ErrNone},
		{n, 2, 7, 3, 11, 7, api.OK},
		{n, 2, 6, 3, 11, 0, api.ErrNone},
		{cold, 0, 6, 1, 0, 1, api.OK},
		{cold, 0, 6, 1, 1, 2, api.OK},
		{cold, 0, 6, 1, 2, 4, api.OK},
		{cold, 0, 6, 1, 3, 5, api.OK},
		{cold, 0, 6, 1, 4, 0, api.ErrNone},
		{cold, 2, 6, 1, 0, 2, api.OK},
		{cold, 3, 6, 1, 0, 4, api.OK},
		{cold, 1, 1, 5, 4, 1, api.OK},
		{cold, 1, 1, 5, 5, 0, api.ErrNone},
		{cold, 1, 2, 5, 9, 2, api.OK},
		{cold, 0, 0, 5, 0, 0, api.ErrNone},
		{cold, 3, 3, 5, 0, 0, api.ErrNone},
		{cold, 6, 6, all, 0, 0, api.ErrNone},
		{cold, 0, 6, 0, 0, 0, api.ErrNone},
		{cold, 0, 6, all, all, 2, api.OK},
		{cold, 0, 6, all, all - 1, 1, api.OK},
		{exactly(-1), 0, 0, 1, 0, 0, api.OK},
		{exactly(-1), 0, 0, 1, 1, 0, api.ErrNone},
	} {
		if slot, e := frost.Ice(x.n, x.from, x.to, x.gain, x.limit); slot != x.want || e != x.e {
			t.Error(x, slot, e)
		}
	}
}

// P3.4: as Temps tells the temperatures: perhaps at most 0 is enough.
func TestIceIsPossible(t *testing.T) {
	found := 0
	eachWorld(func(seed uint64, r world) {
		_, n, _, _ := r.someOfAll()
		from := r.IntN(n.Slots)
		to, gain, limit := r.between(from, n.Slots-1), r.IntN(4), r.IntN(9)
		want, wantError, ice := 0, api.ErrNone, 0
		for slot, s := range temperatures(n) {
			if from <= slot && slot <= to && s.Lo <= 0 {
				ice += gain
			}
			if ice > limit {
				want, wantError = slot, api.OK
				break
			}
		}
		if slot, e := frost.Ice(n, from, to, gain, limit); slot != want || e != wantError {
			t.Fatal(seed, slot, e, want)
		}
		if wantError == api.OK {
			found++
		}
	})
	if found < 20 {
		t.Error("too few", found)
	}
}
