package station_test

import (
	"slices"
	"testing"

	"fenberry/api"
	"fenberry/station"
)

func isIn(n int, s api.Span) bool { return s.Lo <= n && n <= s.Hi }

// P8.6, P3: whenever the trucks arrive, and however long they take, each begins, ends and waits within what is told.
func TestTruthIsWithin(t *testing.T) {
	waits := 0
	eachWorld(func(seed uint64, r world) {
		l := r.someTrucks()
		bays := r.someBays()
		v, _ := station.Queue(l, bays)
		some := func(s api.Span) int { return r.between(s.Lo, s.Hi) }
		end := func(s api.Span) int { return []int{s.Lo, s.Hi}[r.IntN(2)] }
		for _, pick := range []func(api.Span) int{some, some, end, end, lowest, highest} {
			for i, f := range live(truths(l, pick), bays) {
				if !isIn(f.begin, v[i].Begin) || !isIn(f.end, v[i].End) || !isIn(f.begin-f.arrive, v[i].Wait) {
					t.Fatal(seed, l, bays, i, v[i], f)
				}
				if f.begin > f.arrive {
					waits++
				}
			}
		}
	})
	if waits < 1000 {
		t.Error("too few", waits)
	}
}

// P8.6: with one bay more nobody begins later, or waits longer.
func TestMoreBaysAreNoSlower(t *testing.T) {
	sooner := 0
	eachWorld(func(seed uint64, r world) {
		l := r.someTrucks()
		for bays := 1; bays < 8; bays++ {
			v, _ := station.Queue(l, bays)
			more, _ := station.Queue(l, bays+1)
			for i := range l {
				if more[i].Begin.Lo > v[i].Begin.Lo || more[i].Begin.Hi > v[i].Begin.Hi || more[i].Wait.Lo > v[i].Wait.Lo || more[i].Wait.Hi > v[i].Wait.Hi {
					t.Fatal(seed, l, bays, i, v[i], more[i])
				}
				if more[i].Begin != v[i].Begin {
					sooner++
				}
			}
		}
	})
	if sooner < 1000 {
		t.Error("too few", sooner)
	}
}

// P8.6: no bay is idle while a truck that has arrived, and is the next one, waits. Of trucks that are known exactly, there is no minute in which one that waits could begin.
func TestNoBayIsIdle(t *testing.T) {
	waits := 0
	eachSmall(func(seed uint64, r world) {
		var l []api.Truck
		for range r.between(1, 12) {
			l = append(l, exact(r.between(0, 12), r.between(0, 6)))
		}
		bays := r.between(1, 4)
		v, _ := station.Queue(l, bays)
		var trucks []fact
		for i, u := range l {
			trucks = append(trucks, fact{u.Arrive.Lo, u.Work.Lo, v[i].Begin.Lo, v[i].End.Lo})
		}
		for i, f := range trucks {
			for minute := f.arrive; minute < f.begin; minute++ {
				waits++
				next := i == 0 || trucks[i-1].begin <= minute
				if next && busy(trucks[:i], minute) < bays {
					t.Fatal(seed, l, bays, v, i, minute)
				}
			}
			if i > 0 && f.begin < trucks[i-1].begin || busy(trucks[:i], f.begin) >= bays {
				t.Fatal("ahead of its turn", seed, l, bays, v, i)
			}
		}
	})
	if waits < 1000 {
		t.Error("too few", waits)
	}
}

// P3: what follows from more exact spans is within what follows from others.
func TestMoreIsKnown(t *testing.T) {
	within := func(a, b api.Span) bool { return b.Lo <= a.Lo && a.Hi <= b.Hi }
	narrower := 0
	eachWorld(func(seed uint64, r world) {
		l := r.someTrucks()
		bays := r.someBays()
		known := slices.Clone(l)
		for i, u := range known {
			known[i] = api.Truck{Arrive: r.part(u.Arrive), Work: r.part(u.Work)}
		}
		v, _ := station.Queue(l, bays)
		w, _ := station.Queue(known, bays)
		for i := range v {
			if !within(w[i].Begin, v[i].Begin) || !within(w[i].End, v[i].End) || !within(w[i].Wait, v[i].Wait) {
				t.Fatal(seed, l, known, bays, i, v[i], w[i])
			}
			if v[i] != w[i] {
				narrower++
			}
		}
	})
	if narrower < 1000 {
		t.Error("too few", narrower)
	}
}

// part returns a span within another one.
func (r world) part(s api.Span) api.Span {
	a, b := r.between(s.Lo, s.Hi), r.between(s.Lo, s.Hi)
	return span(min(a, b), max(a, b))
}

// P8.6, P8: good berries, trash and rotten ones are the load, to the gram.
func TestAllOfTheLoad(t *testing.T) {
	eachWorld(func(seed uint64, r world) {
		s := r.someSlip()
		l, _ := station.Weigh(s)
		if l.Good+l.Trash+l.Rot != l.Net || l.Net != s.Gross-s.Tare || min(l.Good, l.Trash, l.Rot, l.Colour, l.Firm) < 0 {
			t.Fatal(seed, s, l)
		}
		if l.Colour > l.Good*api.MaxColour || l.Firm > l.Good*api.MaxFirm {
			t.Fatal(seed, s, l)
		}
	})
}

// P8.6, P10: a load that is split into two, with the same samples, has no more good berries, and no more colour, in both parts together.
func TestSplitLoadsGainNothing(t *testing.T) {
	lost, redLost := 0, 0
	eachWorld(func(seed uint64, r world) {
		s := r.someSlip()
		whole, _ := station.Weigh(s)
		for range 5 {
			net := r.between(0, whole.Net)
			a, _ := station.Weigh(slip(net, s.Samples...))
			b, _ := station.Weigh(slip(whole.Net-net, s.Samples...))
			if a.Net+b.Net != whole.Net || a.Good+b.Good > whole.Good || a.Colour+b.Colour > whole.Colour || a.Firm+b.Firm > whole.Firm {
				t.Fatal(seed, s, net, whole, a, b)
			}
			if a.Good+b.Good < whole.Good {
				lost++
			}
			if a.Colour+b.Colour < whole.Colour {
				redLost++
			}
		}
	})
	if min(lost, redLost) < 200 {
		t.Error("too few", lost, redLost)
	}
}

// P8.6: with a higher board, or fewer tries, no more berries bounce.
func TestHarderBouncesNoMore(t *testing.T) {
	higher, fewer := 0, 0
	eachWorld(func(seed uint64, r world) {
		berries := r.someBerries()
		board := r.someBoard(berries)
		tries := r.between(1, api.MaxTries)
		n, _ := station.Bounce(berries, board, tries)
		above, _ := station.Bounce(berries, r.between(board, api.MaxBounce), tries)
		less, _ := station.Bounce(berries, board, r.between(0, tries))
		if above > n || less > n {
			t.Fatal(seed, berries, board, tries, n, above, less)
		}
		if above < n {
			higher++
		}
		if less < n {
			fewer++
		}
	})
	if min(higher, fewer) < 100 {
		t.Error("too few", higher, fewer)
	}
}

// P11: the order of samples and of berries makes no difference, nor does what a slip is about.
func TestOrderDoesNotMatter(t *testing.T) {
	eachWorld(func(seed uint64, r world) {
		s := r.someSlip()
		l, _ := station.Weigh(s)
		other := cloneSlip(s)
		r.Shuffle(len(other.Samples), func(i, j int) { other.Samples[i], other.Samples[j] = other.Samples[j], other.Samples[i] })
		other.Grower, other.Bed, other.Day = r.between(0, api.MaxGrower), r.between(0, api.MaxBed), r.between(0, api.MaxDay)
		expectWeigh(t, "other", other, l, api.OK)
		berries := r.someBerries()
		board := r.someBoard(berries)
		n, _ := station.Bounce(berries, board, 3)
		r.Shuffle(len(berries), func(i, j int) { berries[i], berries[j] = berries[j], berries[i] })
		expectBounce(t, "other", berries, board, 3, n, api.OK)
		if t.Failed() {
			t.Fatal(seed)
		}
	})
}

// A truck makes no difference to the trucks ahead of it.
func TestTrucksAheadDoNotCare(t *testing.T) {
	eachWorld(func(seed uint64, r world) {
		l := r.someTrucks()
		bays := r.someBays()
		all, _ := station.Queue(l, bays)
		for n := range l {
			expectQueue(t, "ahead", l[:n], bays, all[:n], api.OK)
		}
		if t.Failed() {
			t.Fatal(seed)
		}
	})
}

// P8.5, R4: arguments are only read.
func TestArgumentsAreOnlyRead(t *testing.T) {
	eachWorld(func(seed uint64, r world) {
		l, s, berries := r.someTrucks(), r.someSlip(), r.someBerries()
		trucks, samples, heights := slices.Clone(l), slices.Clone(s.Samples), cloneBerries(berries)
		station.Queue(l, r.someBays())
		station.Bays(l, r.IntN(100))
		station.Weigh(s)
		station.Bounce(berries, r.someBoard(berries), r.IntN(8))
		if !slices.Equal(l, trucks) || !slices.Equal(s.Samples, samples) || !slices.EqualFunc(berries, heights, slices.Equal[[]int]) {
			t.Fatal(seed, l, trucks, s, samples, berries, heights)
		}
	})
}

// P8.5, R4: results are new: one that is changed changes no other one.
func TestResultsAreNew(t *testing.T) {
	l := exampleTrucks()
	first, _ := station.Queue(l, 2)
	kept := slices.Clone(first)
	second, _ := station.Queue(l, 2)
	clear(first)
	if !slices.Equal(second, kept) || !slices.Equal(l, exampleTrucks()) {
		t.Error("shared", second, l)
	}
	clear(l)
	if !slices.Equal(second, kept) {
		t.Error("shared with the argument", second)
	}
}

// P11: the same call gives the same, whatever was called ahead of it.
func TestSameAgain(t *testing.T) {
	eachWorld(func(seed uint64, r world) {
		l, s, bays, most := r.someTrucks(), r.someSlip(), r.someBays(), r.IntN(200)
		v, e := station.Queue(l, bays)
		n, f := station.Bays(l, most)
		w, g := station.Weigh(s)
		other := r.someTrucks()
		station.Queue(other, bays)
		station.Bays(other, most)
		station.Weigh(r.someSlip())
		expectQueue(t, "again", l, bays, v, e)
		expectBays(t, "again", l, most, n, f)
		expectWeigh(t, "again", s, w, g)
		if t.Failed() {
			t.Fatal(seed)
		}
	})
}
