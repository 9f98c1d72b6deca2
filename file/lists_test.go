package file_test

import (
	"slices"
	"testing"

	"fenberry/api"
	"fenberry/file"
)

// P14.5, P14.6: one of each kind, by hand.
func TestExampleSeason(t *testing.T) {
	want := []api.Note{
		note(0, 1, 2, 3, 4),
		note(1, 5, 6, -7),
		note(2, 7, 3, 200, 9000, 4000), note(3, 500, 5, 10, 80, 600),
		note(4, 1, 8, 9, 10, 11),
	}
	l, e := exampleSeason().notes()
	if !sameNotes(l, want) || e != api.OK {
		t.Error(l, e)
	}
	expectSeason(t, "example", want, exampleSeason())
}

// P14.5, P14.6, R3: nothing noted is nothing, nil or empty.
func TestNothingNoted(t *testing.T) {
	expectSeason(t, "nil", nil, season{})
	expectSeason(t, "empty", []api.Note{}, season{})
	for _, s := range []season{{}, {asks: []api.Ask{}, readings: []api.Reading{}, slips: []api.Slip{}, events: []api.DrumEvent{}}} {
		if l, e := s.notes(); len(l) > 0 || e != api.OK {
			t.Error(l, e)
		}
	}
	for _, samples := range [][]api.Sample{nil, {}} {
		l, e := file.Notes(nil, nil, []api.Slip{{Samples: samples}}, nil)
		if !sameNotes(l, []api.Note{note(2, 0, 0, 0, 0, 0)}) || e != api.OK {
			t.Error(l, e)
		}
	}
	// What is of other kinds is not there.
	l := []api.Note{note(0, 1, 2, 3, 4), note(4, 1, 8, 9, 10, 11)}
	if slips, e := file.Slips(l); len(slips) > 0 || e != api.OK {
		t.Error(slips, e)
	}
	if readings, e := file.Readings(l); len(readings) > 0 || e != api.OK {
		t.Error(readings, e)
	}
}

// P14.5: of notes of all kinds each function takes its own, in their order.
func TestMixedNotes(t *testing.T) {
	most := 0
	for seed := range uint64(1000) {
		r := newWorld(seed)
		var l []api.Note
		var want season
		for range r.IntN(60) {
			x := r.someNote()
			if x.Kind == api.NoteSample && len(want.slips) == 0 {
				continue
			}
			l = append(l, x)
			want.add(x)
		}
		expectSeason(t, "mixed", l, want)
		// Notes puts them in another order, and gives back the same.
		sorted, e := want.notes()
		if !sameNotes(sorted, order(l)) || e != api.OK {
			t.Fatal(seed, l, sorted, e)
		}
		expectSeason(t, "sorted", sorted, want)
		if t.Failed() {
			t.Fatal(seed)
		}
		for _, x := range want.slips {
			most = max(most, len(x.Samples))
		}
	}
	if most < 8 {
		t.Error("too few samples", most)
	}
}

// P14.5: samples are those of the slip ahead of them, also if other kinds are noted in between.
func TestSamplesOfSlips(t *testing.T) {
	slip := func(grower int) api.Note { return note(2, grower, 0, 0, 0, 0) }
	sample := func(weight int) api.Note { return note(3, weight, 0, 0, 0, 0) }
	want := []api.Slip{
		{Grower: 1, Samples: []api.Sample{{Weight: 10}, {Weight: 11}, {Weight: 10}}},
		{Grower: 2},
		{Grower: 1, Samples: []api.Sample{{Weight: 12}}},
	}
	l := []api.Note{reading(1), slip(1), sample(10), reading(2), sample(11), note(0, 0, 0, 0, 0), note(4, 0, 0, 0, 0, 0), sample(10), slip(2), reading(3), slip(1), sample(12), reading(4)}
	if slips, e := file.Slips(l); !sameSlips(slips, want) || e != api.OK {
		t.Error(slips, e)
	}
}

// P14.5: a sample ahead of the first slip.
func TestSamplesAhead(t *testing.T) {
	slip, sample := note(2, 0, 0, 0, 0, 0), note(3, 0, 0, 0, 0, 0)
	for _, l := range [][]api.Note{{sample}, {sample, slip}, {reading(1), sample, slip, sample}, {note(0, 0, 0, 0, 0), note(4, 0, 0, 0, 0, 0), sample}, {sample, sample}} {
		if slips, e := file.Slips(l); len(slips) > 0 || e != api.ErrOrder {
			t.Error(l, slips, e)
		}
		// The other functions do not look at that.
		_, e1 := file.Asks(l)
		_, e2 := file.Readings(l)
		_, e3 := file.Drums(l)
		if e1 != api.OK || e2 != api.OK || e3 != api.OK {
			t.Error(l, e1, e2, e3)
		}
		// What is not valid, or too long, comes first.
		expectError(t, "not valid", append(slices.Clone(l), note(5)), api.ErrArg)
		expectError(t, "long", append(slices.Clone(l), make([]api.Note, 1024)...), api.ErrLong)
	}
	if slips, e := file.Slips([]api.Note{slip, sample, reading(1)}); len(slips) != 1 || e != api.OK {
		t.Error(slips, e)
	}
}

// P14.5: there may be 1024 notes.
func TestManyNotes(t *testing.T) {
	for _, k := range kinds() {
		r := newWorld(uint64(k.number))
		l := []api.Note{note(2, 0, 0, 0, 0, 0)}
		want := season{slips: []api.Slip{{}}}
		for len(l) < mostNotes {
			x := r.noteOf(k)
			l = append(l, x)
			want.add(x)
		}
		expectSeason(t, "most", l, want)
		expectError(t, "long", append(l, r.noteOf(k)), api.ErrLong)
		expectError(t, "long", append(l, note(5)), api.ErrLong)
		expectError(t, "long", append(l, l...), api.ErrLong)
		l[mostNotes-1] = note(5)
		expectError(t, "the last one", l, api.ErrArg)
		expectError(t, "long", append(l, l[0]), api.ErrLong)
	}
	expectError(t, "long", make([]api.Note, 1025), api.ErrLong)
	expectError(t, "not valid", make([]api.Note, 1024), api.ErrArg)
}

// seasonOf returns a season of so many asks, readings, slips, samples of the last slip, and events.
func seasonOf(asks, readings, slips, samples, events int) season {
	s := season{asks: make([]api.Ask, asks), readings: make([]api.Reading, readings), slips: make([]api.Slip, slips), events: make([]api.DrumEvent, events)}
	if slips > 0 {
		s.slips[slips-1].Samples = make([]api.Sample, samples)
	}
	return s
}

// P14.6: there would be at most 1024 notes, of whatever they are.
func TestManyInSeason(t *testing.T) {
	for _, n := range [][5]int{{1024}, {0, 1024}, {0, 0, 1024}, {0, 0, 1, 1023}, {0, 0, 0, 0, 1024}, {300, 300, 100, 24, 300}, {1, 1, 511, 510, 1}, {500, 0, 0, 0, 524}} {
		s := seasonOf(n[0], n[1], n[2], n[3], n[4])
		l, e := s.notes()
		if len(l) != 1024 || e != api.OK {
			t.Error(n, len(l), e)
		}
		expectSeason(t, "most", l, s)
		for i := range n {
			m := n
			m[i]++
			if m[3] > 0 && m[2] == 0 {
				continue
			}
			s := seasonOf(m[0], m[1], m[2], m[3], m[4])
			if l, e := s.notes(); len(l) > 0 || e != api.ErrLong {
				t.Error(m, len(l), e)
			}
			// That one is not valid comes behind that.
			s.events = append(s.events, api.DrumEvent{Kind: 4})
			if l, e := s.notes(); len(l) > 0 || e != api.ErrLong {
				t.Error(m, len(l), e)
			}
		}
	}
	// Samples of many slips are counted together.
	for many, want := range map[int]api.Errno{31: api.OK, 32: api.ErrLong} {
		slips := slices.Repeat([]api.Slip{{Samples: make([]api.Sample, 32)}}, many)
		if l, e := file.Notes(nil, nil, slips, nil); e != want || e == api.OK && len(l) != 33*many {
			t.Error(many, len(l), e)
		}
	}
	// More than can be written down.
	slips := slices.Repeat([]api.Slip{{Samples: make([]api.Sample, 1<<16)}}, 1<<16)
	if l, e := file.Notes(nil, nil, slips, nil); len(l) > 0 || e != api.ErrLong {
		t.Error(len(l), e)
	}
	if l, e := file.Notes(nil, nil, slips[:1], []api.DrumEvent{{Kind: -1}}); len(l) > 0 || e != api.ErrLong {
		t.Error(len(l), e)
	}
}

// P14.6: all asks, then all readings, then all slips with their samples, then all events.
func TestOrderOfNotes(t *testing.T) {
	s := season{
		asks:     []api.Ask{{Grower: 1, Amount: 9}, {Grower: 2}, {Grower: 1, Amount: 9}},
		readings: []api.Reading{{Sensor: 1, Slot: 9}, {Sensor: 2, Slot: 8}},
		slips: []api.Slip{
			{Grower: 9, Samples: []api.Sample{{Weight: 2}, {Weight: 1}}},
			{Grower: 8},
			{Grower: 7, Samples: []api.Sample{{Weight: 3}}},
		},
		events: []api.DrumEvent{{Kind: 3, Vessel: 1}, {Vessel: 1, Amount: 5}},
	}
	want := []api.Note{
		note(0, 1, 0, 0, 9), note(0, 2, 0, 0, 0), note(0, 1, 0, 0, 9),
		note(1, 1, 9, 0), note(1, 2, 8, 0),
		note(2, 9, 0, 0, 0, 0), note(3, 2, 0, 0, 0, 0), note(3, 1, 0, 0, 0, 0),
		note(2, 8, 0, 0, 0, 0),
		note(2, 7, 0, 0, 0, 0), note(3, 3, 0, 0, 0, 0),
		note(4, 3, 1, 0, 0, 0), note(4, 0, 1, 0, 0, 5),
	}
	if l, e := s.notes(); !sameNotes(l, want) || e != api.OK {
		t.Error(l, e)
	}
	expectSeason(t, "order", want, s)
}
