package drum_test

import (
	"maps"
	"slices"
	"testing"

	"fenberry/api"
	"fenberry/drum"
)

func isIn(n int, s api.Span) bool { return s.Lo <= n && n <= s.Hi }

// delivered returns how much of each bed was delivered.
func delivered(l []api.DrumEvent) map[int]int {
	all := map[int]int{}
	for _, v := range l {
		if v.Kind == api.Deliver {
			all[v.Bed] += v.Amount
		}
	}
	return all
}

// beds returns the beds of which something was delivered, rising.
func beds(l []api.DrumEvent) []int { return slices.Sorted(maps.Keys(delivered(l))) }

// tellAll returns what Trace says of all vessels, and Lost of all beds.
func tellAll(l []api.DrumEvent) *shares {
	all := newShares()
	for vessel := range 16 {
		origins, _ := drum.Trace(l, vessel)
		for _, o := range origins {
			all[vessel][o.Bed] = o.Amount
		}
	}
	for _, bed := range beds(l) {
		if s, _ := drum.Lost(l, bed); s != span(0, 0) {
			all[waste][bed] = s
		}
	}
	return all
}

func (s *shares) equal(other *shares) bool {
	return slices.EqualFunc(s[:], other[:], maps.Equal[map[int]api.Span, map[int]api.Span])
}

// P10.6, P3, P9: however vessels are mixed, what is in them, and what was thrown away, is what is told of each bed; and what is not told of has nothing of it.
func TestTruthIsWithin(t *testing.T) {
	ends, between := 0, 0
	eachWorld(func(seed uint64, r world) {
		l := r.someEvents()
		all := beds(l)
		if len(all) == 0 {
			return
		}
		told := tellAll(l)
		for n := range 10 {
			pick := r.anyPart
			if n < 6 {
				pick = taking(all, r.of(all), n < 3)
			}
			for place, m := range live(l, pick) {
				for _, bed := range all {
					s := told[place][bed]
					if !isIn(m[bed], s) {
						t.Fatal(seed, l, place, bed, m[bed], s)
					}
					if m[bed] == s.Lo || m[bed] == s.Hi {
						ends++
					} else {
						between++
					}
				}
			}
		}
	})
	if min(ends, between) < 1000 {
		t.Error("too few", ends, between)
	}
}

// P10.6, P8: what was delivered is in vessels, or was thrown away, to the gram; and so is what is told of each bed and of each vessel.
func TestAllIsSomewhere(t *testing.T) {
	eachWorld(func(seed uint64, r world) {
		l := r.someEvents()
		v, _, _ := drum.Play(l)
		told := tellAll(l)
		thrown := 0
		for _, x := range l {
			if x.Kind == api.Dump {
				thrown += x.Amount
			}
		}
		amounts := []int{}
		for _, x := range v {
			amounts = append(amounts, x.Amount)
		}
		amounts = append(amounts, thrown)
		came := delivered(l)
		sum := 0
		for _, n := range came {
			sum += n
		}
		for _, n := range amounts {
			sum -= n
		}
		if sum != 0 {
			t.Fatal("not all", seed, l, v)
		}
		for place, s := range told {
			least, most := 0, 0
			for bed, x := range s {
				if x.Lo < 0 || x.Lo > x.Hi || x.Hi > min(amounts[place], came[bed]) {
					t.Fatal(seed, l, place, bed, x)
				}
				least, most = least+x.Lo, most+x.Hi
				if len(s) == 1 && x != span(amounts[place], amounts[place]) {
					t.Fatal("the only bed", seed, l, place, bed, x)
				}
			}
			if !isIn(amounts[place], span(least, most)) {
				t.Fatal("a vessel", seed, l, place, least, most)
			}
		}
		for bed, n := range came {
			least, most := 0, 0
			for _, s := range told {
				least, most = least+s[bed].Lo, most+s[bed].Hi
			}
			if !isIn(n, span(least, most)) {
				t.Fatal("a bed", seed, l, bed, least, most)
			}
		}
	})
}

// What is not of a bed is of the others: there is the least of a bed if there is the most of all others, as if these were one.
func TestOtherBedsAreOne(t *testing.T) {
	mixed := 0
	eachWorld(func(seed uint64, r world) {
		l := r.someEvents()
		all := beds(l)
		if len(all) == 0 {
			return
		}
		bed := r.of(all)
		other := (bed + 1) % 1024
		merged := with(l)
		for i := range merged {
			if merged[i].Bed != bed {
				merged[i].Bed = other
			}
		}
		told, both := tellAll(l), tellAll(merged)
		v, _, _ := drum.Play(l)
		for place := range told {
			a, b := both[place][bed], both[place][other]
			if a != told[place][bed] {
				t.Fatal(seed, l, place, bed, a, told[place][bed])
			}
			if place != waste && (a.Lo+b.Hi != v[place].Amount || a.Hi+b.Lo != v[place].Amount) {
				t.Fatal(seed, l, place, bed, a, b, v[place])
			}
			if a.Lo > 0 && b.Lo > 0 {
				mixed++
			}
		}
	})
	if mixed < 50 {
		t.Error("too few", mixed)
	}
}

// full returns an open vessel from which a part can be taken, or a number below 0.
func full(v []api.Vessel) int {
	return slices.IndexFunc(v, func(x api.Vessel) bool { return !x.Sealed && x.Amount > 1 })
}

// empty returns the open vessels in which nothing is.
func empty(v []api.Vessel) []int {
	var l []int
	for i, x := range v {
		if !x.Sealed && x.Amount == 0 {
			l = append(l, i)
		}
	}
	return l
}

// P10.6: what is poured away and back together again is what it was; what is poured into an empty vessel is there what it was.
func TestPouredAndBack(t *testing.T) {
	backs := 0
	eachWorld(func(seed uint64, r world) {
		l := r.someEvents()
		l = l[:min(len(l), 58)]
		v, _, _ := drum.Play(l)
		from, to := full(v), empty(v)
		if from < 0 || len(to) < 2 {
			return
		}
		told := tellAll(l)
		amount := v[from].Amount
		a := r.between(1, amount-1)
		b := r.between(1, amount-a)
		for _, back := range [][]api.DrumEvent{
			{pour(from, to[0], a), pour(to[0], from, a)},
			{pour(from, to[0], amount), pour(to[0], from, amount)},
			{pour(from, to[0], a), pour(from, to[1], b), pour(to[1], from, b), pour(to[0], from, a)},
			{pour(from, to[0], a), pour(from, to[1], b), pour(to[0], to[1], a), pour(to[1], from, a+b)},
		} {
			backs++
			if !tellAll(with(l, back...)).equal(told) {
				t.Fatal(seed, l, back)
			}
		}
		moved := tellAll(with(l, pour(from, to[0], amount)))
		moved[from], moved[to[0]] = moved[to[0]], moved[from]
		if !moved.equal(told) {
			t.Fatal("moved", seed, l, from, to[0])
		}
	})
	if backs < 500 {
		t.Error("too few", backs)
	}
}

// touches tells whether an event is about one of the vessels of another one.
func touches(a, b api.DrumEvent) bool {
	vessels := func(v api.DrumEvent) []int {
		if v.Kind == api.Pour {
			return []int{v.Vessel, v.Other}
		}
		return []int{v.Vessel}
	}
	return slices.ContainsFunc(vessels(a), func(n int) bool { return slices.Contains(vessels(b), n) })
}

// P11: the order of events of different vessels makes no difference, and neither does it whether something comes, is poured or is thrown away at once.
func TestOrderDoesNotMatter(t *testing.T) {
	changed := 0
	eachWorld(func(seed uint64, r world) {
		l := r.someEvents()
		told := tellAll(l)
		other := with(l)
		for range 100 {
			if len(l) < 2 {
				break
			}
			i := r.IntN(len(l) - 1)
			if !touches(other[i], other[i+1]) {
				other[i], other[i+1] = other[i+1], other[i]
			}
		}
		var split []api.DrumEvent
		for i, v := range other {
			room := 64 - len(split) - len(other[i:])
			if room > 0 && v.Kind != api.Seal && v.Amount > 1 && r.IntN(2) == 0 {
				part := v
				part.Amount = r.between(1, v.Amount-1)
				v.Amount -= part.Amount
				split = append(split, part)
			}
			split = append(split, v)
		}
		if !tellAll(other).equal(told) || !tellAll(split).equal(told) {
			t.Fatal(seed, l, other, split)
		}
		if !slices.Equal(l, split) {
			changed++
		}
	})
	if changed < 200 {
		t.Error("too few", changed)
	}
}

// Which vessels and beds they are makes no difference.
func TestNumbersDoNotMatter(t *testing.T) {
	eachWorld(func(seed uint64, r world) {
		l := r.someEvents()
		told := tellAll(l)
		vessels, beds := append(r.Perm(16), waste), r.Perm(1024)
		other := with(l)
		for i, v := range other {
			other[i].Vessel, other[i].Other, other[i].Bed = vessels[v.Vessel], vessels[v.Other], beds[v.Bed]
		}
		want := newShares()
		for place, s := range told {
			for bed, x := range s {
				want[vessels[place]][beds[bed]] = x
			}
		}
		if !tellAll(other).equal(want) {
			t.Fatal(seed, l, other)
		}
	})
}

// What happens later to other vessels makes no difference to a vessel; what is sealed stays what it is.
func TestOtherVesselsDoNotMatter(t *testing.T) {
	later := 0
	eachWorld(func(seed uint64, r world) {
		l := r.someEvents()
		ahead := l[:max(0, len(l)-r.between(1, 5))]
		a, b := tellAll(ahead), tellAll(l)
		for vessel := range 16 {
			if slices.ContainsFunc(l[len(ahead):], func(v api.DrumEvent) bool { return v.Kind != api.Seal && touches(v, seal(vessel)) }) {
				continue
			}
			if !maps.Equal(a[vessel], b[vessel]) {
				t.Fatal(seed, l, len(ahead), vessel, a[vessel], b[vessel])
			}
			if len(a[vessel]) > 0 && len(ahead) < len(l) {
				later++
			}
		}
	})
	if later < 200 {
		t.Error("too few", later)
	}
}

// P3, R5: so many times as much of all is so many times as much of each bed.
func TestGreatAmounts(t *testing.T) {
	const times = 1 << 34
	each(150, []sizes{few()}, func(seed uint64, r world) {
		l := r.someEvents()
		great := with(l)
		for i := range great {
			great[i].Amount *= times
		}
		want := tellAll(l)
		for _, s := range want {
			for bed, x := range s {
				s[bed] = span(x.Lo*times, x.Hi*times)
			}
		}
		if !tellAll(great).equal(want) {
			t.Fatal(seed, l)
		}
	})
}

// P10.5, R4: arguments are only read.
func TestArgumentsAreOnlyRead(t *testing.T) {
	eachWorld(func(seed uint64, r world) {
		l := r.someEvents()
		kept := with(l)
		drum.Play(l)
		drum.Trace(l, r.of(r.vessels))
		drum.Recall(l, r.of(r.beds))
		drum.Lost(l, r.of(r.beds))
		if !slices.Equal(l, kept) {
			t.Fatal(seed, l, kept)
		}
	})
}

// P10.5, R4: results are new: one that is changed changes no other one.
func TestResultsAreNew(t *testing.T) {
	l := exampleEvents()[:3]
	vessels, _, _ := drum.Play(l)
	origins, _ := drum.Trace(l, 1)
	can, must, _ := drum.Recall(l, 5)
	again, _, _ := drum.Play(l)
	can[1], can[0] = 9, 9
	if !slices.Equal(must, []int{1}) {
		t.Error("can and must share memory", must)
	}
	must = append(must[:0], 8, 8, 8)
	if !slices.Equal(can, []int{9, 9}) {
		t.Error("can and must share memory", can)
	}
	clear(vessels)
	clear(origins)
	if again[0].Amount != 40 || again[1].Amount != 120 {
		t.Error("shared", again)
	}
	expectTrace(t, "again", l, 1, []api.Origin{origin(5, 60, 100), origin(7, 20, 60)}, api.OK)
	expectRecall(t, "again", l, 5, []int{0, 1}, []int{1}, api.OK)
	if !slices.Equal(l, exampleEvents()[:3]) {
		t.Error("shared with the argument", l)
	}
	clear(l)
	if again[0].Amount != 40 {
		t.Error("shared with the argument", again)
	}
}

// P11: the same call gives the same each time, whatever was called ahead of it.
func TestSameAgain(t *testing.T) {
	eachWorld(func(seed uint64, r world) {
		l := r.someEvents()
		told := tellAll(l)
		v, n, e := drum.Play(l)
		for range 3 {
			other := r.someEvents()
			drum.Play(other)
			drum.Trace(other, 3)
			expectPlay(t, "again", l, v, n, e)
			if !tellAll(l).equal(told) {
				t.Fatal(seed, l)
			}
		}
	})
}
