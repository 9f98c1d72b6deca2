package file_test

import (
	"slices"
	"testing"

	"fenberry/api"
	"fenberry/file"
)

// takesNote checks that a note is appended, and given by the function of its kind, or that all functions return ErrArg for it.
func takesNote(t *testing.T, name string, valid bool, x api.Note) {
	t.Helper()
	slip := note(2, 0, 0, 0, 0, 0)
	if valid {
		ring := put(ringWith(3, 6, reading(1)), 1, blockOf(x, 7))
		expectAppend(t, name, ringWith(3, 6, reading(1)), x, ring, api.OK)
		expectTear(t, name, ringWith(3, 6, reading(1)), x, 64, ring, api.OK)
		expectRead(t, name, ring, []api.Note{reading(1), x}, 6, api.OK)
		want := season{slips: []api.Slip{{}}}
		want.add(x)
		expectSeason(t, name, []api.Note{slip, x}, want)
		return
	}
	for _, ring := range [][]byte{emptyRing(2), ringWith(3, 6, reading(1)), ringWith(3, lastNote, reading(1))} {
		expectAppend(t, name, ring, x, nil, api.ErrArg)
		for _, n := range []int{0, 64, -1, 65} {
			expectTear(t, name, ring, x, n, nil, api.ErrArg)
		}
	}
	expectError(t, name, []api.Note{x}, api.ErrArg)
	expectError(t, name, []api.Note{slip, reading(1), x, slip}, api.ErrArg)
}

// P14.3 to P14.5: the ranges of all numbers of all kinds.
func TestValidNumbers(t *testing.T) {
	for _, k := range kinds() {
		r := newWorld(uint64(k.number))
		for i, f := range k.fields {
			for _, n := range append(strangeNumbers(), f.lo-1, f.lo, f.lo+1, f.hi-1, f.hi, f.hi+1) {
				x := r.noteOf(k)
				x.N[i] = n
				takesNote(t, f.name, f.lo <= n && n <= f.hi, x)
			}
		}
	}
}

// P14.3 to P14.5: notes have just the numbers of their kind.
func TestValidCounts(t *testing.T) {
	for _, k := range kinds() {
		for _, n := range []int{0, 1, 2, 3, 4, 5, 6, 7, 100, 1 << 16} {
			takesNote(t, "numbers", n == len(k.fields), note(k.number, make([]int, n)...))
		}
		takesNote(t, "nil", false, api.Note{Kind: k.number})
	}
}

// P14.3 to P14.5, R8: a kind that is not listed is not valid.
func TestValidKinds(t *testing.T) {
	for _, k := range append(strangeNumbers(), 6, 7, 8, 'A', 'R') {
		for n := range 7 {
			valid := k >= 0 && k <= 4 && n == []int{4, 3, 5, 5, 5}[k]
			takesNote(t, "kind", valid, note(k, make([]int, n)...))
		}
	}
}

// P14.3: what other layers say of an ask, a slip or a sample does not matter to its note.
func TestNotesThatAreNoGoodElsewhere(t *testing.T) {
	takesNote(t, "from behind to", true, note(0, 1, 9, 2, 0))
	takesNote(t, "tare above gross", true, note(2, 1, 2, 3, 4, 5))
	takesNote(t, "more trash than weight", true, note(3, 0, 9, 9, 0, 0))
	takesNote(t, "a pour into itself", true, note(4, 1, 2, 2, 0, 0))
}

// fieldsOf returns the numbers of a season's only ask, reading, slip, sample and event, in the order of the table.
func fieldsOf(s *season) [][]*int {
	a, r, l, d := &s.asks[0], &s.readings[0], &s.slips[0], &s.events[0]
	p := &l.Samples[0]
	return [][]*int{
		{&a.Grower, &a.From, &a.To, &a.Amount},
		{&r.Sensor, &r.Slot, &r.Value},
		{&l.Grower, &l.Bed, &l.Day, &l.Gross, &l.Tare},
		{&p.Weight, &p.Trash, &p.Rot, &p.Colour, &p.Firm},
		{&d.Kind, &d.Vessel, &d.Other, &d.Bed, &d.Amount},
	}
}

// P14.6: one number that is beyond its range.
func TestNotesNotValid(t *testing.T) {
	for _, k := range kinds() {
		for i, f := range k.fields {
			for _, n := range append(strangeNumbers(), f.lo-1, f.lo, f.lo+1, f.hi-1, f.hi, f.hi+1) {
				s := exampleSeason()
				*fieldsOf(&s)[k.number][i] = n
				l, e := s.notes()
				if valid := f.lo <= n && n <= f.hi; !valid {
					if e != api.ErrArg || len(l) > 0 {
						t.Error(k.letter, f.name, n, l, e)
					}
				} else if e != api.OK || len(l) != 5 || l[k.number].N[i] != n {
					t.Error(k.letter, f.name, n, l, e)
				} else {
					expectSeason(t, f.name, l, s)
				}
			}
		}
	}
}

// P14.6: the only one that is not valid may be any one.
func TestNotesNotValidAnywhere(t *testing.T) {
	for seed := range uint64(300) {
		r := newWorld(seed)
		var s season
		s.add(r.noteOf(kinds()[2]))
		for range r.IntN(30) {
			s.add(r.someNote())
		}
		if _, e := s.notes(); e != api.OK {
			t.Fatal(seed, s, e)
		}
		switch i := r.IntN(len(s.slips)); {
		case len(s.asks) > 0 && seed%5 == 0:
			s.asks[r.IntN(len(s.asks))].To = 129
		case len(s.readings) > 0 && seed%5 == 1:
			s.readings[r.IntN(len(s.readings))].Value = 5001
		case len(s.events) > 0 && seed%5 == 2:
			s.events[r.IntN(len(s.events))].Bed = -1
		case len(s.slips[i].Samples) > 0:
			s.slips[i].Samples[r.IntN(len(s.slips[i].Samples))].Firm = 1001
		default:
			s.slips[i].Gross = 1<<27 + 1
		}
		if l, e := s.notes(); len(l) > 0 || e != api.ErrArg {
			t.Fatal(seed, s, l, e)
		}
	}
}

// P1, R2: no function panics, and none gives a result with an error.
func TestStrangeArguments(t *testing.T) {
	errors := map[api.Errno]int{}
	for seed := range uint64(5000) {
		r := newWorld(seed)
		strange := func() int { return strangeNumbers()[r.IntN(len(strangeNumbers()))] }
		l := r.someNotes(r.IntN(12))
		ring := r.someRing()
		x := r.someNote()
		for range r.IntN(3) {
			switch r.IntN(4) {
			case 0:
				x.Kind = strange()
			case 1:
				x.N[r.IntN(len(x.N))] = strange()
			case 2:
				ring = ring[:r.IntN(len(ring)+1)]
			case 3:
				l = append(l, note(strange(), strange(), strange(), strange()))
			}
		}
		if r.IntN(20) == 0 {
			l = append(l, make([]api.Note, 1020)...)
		}
		empty, e0 := file.Empty(strange())
		notes, first, e1 := file.Read(ring)
		longer, e2 := file.Append(ring, x)
		torn, e3 := file.Tear(ring, x, strange())
		asks, e4 := file.Asks(l)
		readings, e5 := file.Readings(l)
		slips, e6 := file.Slips(l)
		events, e7 := file.Drums(l)
		s := exampleSeason()
		numbers := slices.Concat(fieldsOf(&s)...)
		*numbers[r.IntN(len(numbers))] = strange()
		all, e8 := s.notes()
		for i, e := range []api.Errno{e0, e1, e2, e3, e4, e5, e6, e7, e8} {
			size := []int{len(empty), len(notes) + first, len(longer), len(torn), len(asks), len(readings), len(slips), len(events), len(all)}[i]
			if e != api.OK && size != 0 {
				t.Fatal("a result with an error", seed, i, e)
			}
			errors[e]++
		}
	}
	for _, e := range []api.Errno{api.OK, api.ErrArg, api.ErrRange, api.ErrLong, api.ErrOrder, api.ErrForm, api.ErrFull} {
		if errors[e] < 50 {
			t.Error("too few", errors)
		}
	}
}
