package file_test

import (
	"bytes"
	"reflect"
	"slices"
	"testing"

	"fenberry/api"
	"fenberry/drum"
	"fenberry/file"
	"fenberry/frost"
	"fenberry/station"
	"fenberry/turns"
)

// copyNotes returns notes as new memory.
func copyNotes(l []api.Note) []api.Note {
	l = slices.Clone(l)
	for i := range l {
		l[i].N = slices.Clone(l[i].N)
	}
	return l
}

// R4: rings are only read, and results are new memory.
func TestMemoryOfRings(t *testing.T) {
	ring := ringWith(3, 5, readings(1, 3)...)
	before, x := slices.Clone(ring), reading(4)
	for _, n := range []int{0, 20, 64} {
		torn, _ := file.Tear(ring, x, n)
		longer, _ := file.Append(ring, x)
		for _, b := range [][]byte{torn, longer} {
			clear(b)
			clear(b[:cap(b)])
		}
		if !bytes.Equal(ring, before) || !sameNotes([]api.Note{x}, readings(4, 4)) {
			t.Fatalf("%d: %q %v", n, ring, x)
		}
	}
	// What lies behind the ring in its memory is not touched either.
	long := slices.Concat(ring, ring)
	if _, e := file.Append(long[:192], x); e != api.OK || !bytes.Equal(long, slices.Concat(before, before)) {
		t.Errorf("%q %d", long, e)
	}
	empty, _ := file.Empty(3)
	clear(empty)
	if other, _ := file.Empty(3); !bytes.Equal(other, emptyRing(3)) {
		t.Errorf("%q", other)
	}
}

// R4: the notes that are read share no memory.
func TestMemoryOfNotes(t *testing.T) {
	ring := ringWith(3, 5, readings(1, 3)...)
	s := exampleSeason()
	s.slips = append(s.slips, s.slips[0])
	for _, get := range []func() []api.Note{
		func() []api.Note { l, _, _ := file.Read(ring); return l },
		func() []api.Note { l, _ := s.notes(); return l },
	} {
		l := get()
		want := copyNotes(l)
		for i := range l {
			clear(l[i].N)
			_ = append(l[i].N, 99, 99, 99, 99, 99)
			if !sameNotes(l[i+1:], want[i+1:]) {
				t.Fatal(i, l, want)
			}
		}
		_ = append(l, reading(9))
		if !sameNotes(get(), want) {
			t.Fatal(get(), want)
		}
	}
	if other := exampleSeason(); !reflect.DeepEqual(s.asks, other.asks) || !sameSlips(s.slips[:1], other.slips) || !reflect.DeepEqual(s.events, other.events) {
		t.Error(s)
	}
}

// R4: lists of what is noted share no memory with each other, or with the notes.
func TestMemoryOfLists(t *testing.T) {
	s := exampleSeason()
	s.slips = append(s.slips, s.slips[0], s.slips[0])
	l, _ := s.notes()
	before := copyNotes(l)
	asks, _ := file.Asks(l)
	readings, _ := file.Readings(l)
	events, _ := file.Drums(l)
	slips, _ := file.Slips(l)
	for i := range slips {
		clear(slips[i].Samples)
		_ = append(slips[i].Samples, api.Sample{Weight: 9}, api.Sample{Weight: 9}, api.Sample{Weight: 9})
		if !sameSlips(slips[i+1:], s.slips[i+1:]) {
			t.Fatal(i, slips)
		}
	}
	clear(asks)
	clear(readings)
	clear(events)
	clear(slips)
	if !sameNotes(l, before) {
		t.Error(l)
	}
	expectSeason(t, "again", l, s)
}

// someSeason returns a season that other layers can play, of at most 180 notes.
func (r world) someSeason() season {
	var s season
	for range r.between(1, 20) {
		from := r.IntN(5)
		s.asks = append(s.asks, api.Ask{Grower: r.IntN(3), From: from, To: from + r.IntN(3), Amount: r.between(1, 50)})
	}
	for slot := range 20 {
		s.readings = append(s.readings, api.Reading{Sensor: slot % 2, Slot: slot, Value: r.between(-40, 90)})
	}
	for range r.between(1, 20) {
		x := api.Slip{Grower: r.IntN(1024), Bed: r.IntN(1024), Day: r.IntN(366), Tare: r.IntN(5000)}
		x.Gross = x.Tare + r.IntN(20000)
		for range r.between(1, 4) {
			x.Samples = append(x.Samples, api.Sample{Weight: r.between(100, 500), Trash: r.IntN(50), Rot: r.IntN(50), Colour: r.IntN(256), Firm: r.IntN(1001)})
		}
		s.slips = append(s.slips, x)
	}
	for range r.between(1, 20) {
		s.events = append(s.events, api.DrumEvent{Kind: api.Deliver, Vessel: r.IntN(3), Bed: r.IntN(5), Amount: r.between(50, 99)})
		s.events = append(s.events, api.DrumEvent{Kind: r.between(api.Pour, api.Dump), Vessel: s.events[len(s.events)-1].Vessel, Other: 5 + r.IntN(3), Amount: r.between(1, 50)})
	}
	return s
}

// played is what other layers make of a season.
type played struct {
	grants  []api.Grant
	temps   []api.Span
	loads   []api.Load
	vessels []api.Vessel
	origins []api.Origin
}

// play plays a season, and checks that all of it can be.
func (s season) play(t *testing.T) played {
	t.Helper()
	var p played
	var rights []api.Right
	for grower := range 3 {
		rights = append(rights, api.Right{Grower: grower, Rank: grower / 2, Share: 1 + grower, Most: 60, Total: 200})
	}
	night := api.Night{Slots: 20, Fall: 200, Rise: 200, Sensors: []api.Span{{Lo: -30, Hi: 30}, {Lo: -20, Hi: 0}}, Readings: s.readings}
	var e [5]api.Errno
	p.grants, _, _, e[0] = turns.Run(rights, s.asks, api.Supply{Water: []int{40, 60, 20, 80, 40, 30}, Store: 30})
	p.temps, e[1] = frost.Temps(night)
	for _, x := range s.slips {
		load, e2 := station.Weigh(x)
		p.loads = append(p.loads, load)
		e[2] = max(e[2], e2)
	}
	p.vessels, _, e[3] = drum.Play(s.events)
	p.origins, e[4] = drum.Trace(s.events, 5)
	if e != [5]api.Errno{} {
		t.Fatal(s, e)
	}
	return p
}

// P11, P14.7, P14.8: a season that is played again from its ring leaves the same, also if the power failed while it was noted.
func TestSeasonFromRing(t *testing.T) {
	for seed := range uint64(8) {
		r := newWorld(seed)
		s := r.someSeason()
		l, e := s.notes()
		if e != api.OK || len(l) > 256 {
			t.Fatal(seed, len(l), e)
		}
		ring := write(t, 256)
		for _, x := range l {
			if r.IntN(3) == 0 {
				ring, _ = file.Tear(ring, x, r.IntN(60))
			}
			ring = appendAll(t, ring, x)
		}
		expectRead(t, "season", ring, l, 0, api.OK)
		read, _, _ := file.Read(ring)
		var again season
		again.asks, _ = file.Asks(read)
		again.readings, _ = file.Readings(read)
		again.slips, _ = file.Slips(read)
		again.events, _ = file.Drums(read)
		if !reflect.DeepEqual(again, s) || !reflect.DeepEqual(again.play(t), s.play(t)) {
			t.Fatal(seed, s, again)
		}
	}
}

// P11: what was appended and torn in the same way leaves the same bytes.
func TestSameBytesAgain(t *testing.T) {
	play := func(seed uint64) []byte {
		r := newWorld(seed)
		ring := write(t, r.between(2, 8))
		for range 30 {
			ring, _ = file.Tear(ring, r.someNote(), []int{64, 64, r.IntN(65)}[r.IntN(3)])
		}
		return ring
	}
	for seed := range uint64(50) {
		if a, b := play(seed), play(seed); !bytes.Equal(a, b) {
			t.Fatalf("%d %q %q", seed, a, b)
		}
	}
}
