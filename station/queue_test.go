package station_test

import (
	"slices"
	"testing"

	"fenberry/api"
	"fenberry/station"
)

// visit returns what is known of a truck.
func visit(begin, end, wait api.Span) api.Visit { return api.Visit{Begin: begin, End: end, Wait: wait} }

// exact returns a truck of which all is known.
func exact(arrive, work int) api.Truck { return api.Truck{Arrive: one(arrive), Work: one(work)} }

// exactly returns a visit of which all is known.
func exactly(begin, end, wait int) api.Visit { return visit(one(begin), one(end), one(wait)) }

// P8.1: the chapter's examples.
func TestQueueExamples(t *testing.T) {
	expectQueue(t, "one bay", exampleTrucks(), 1, []api.Visit{
		visit(span(100, 110), span(120, 140), one(0)),
		visit(span(120, 140), span(130, 150), span(15, 50)),
		visit(span(130, 150), span(145, 190), span(18, 38)),
	}, api.OK)
	two := []api.Visit{
		visit(span(100, 110), span(120, 140), one(0)),
		visit(span(100, 110), span(110, 120), span(0, 20)),
		visit(span(112, 120), span(127, 160), span(0, 8)),
	}
	expectQueue(t, "two bays", exampleTrucks(), 2, two, api.OK)
	two[2] = visit(one(112), span(127, 152), one(0))
	for bays := 3; bays <= 8; bays++ {
		expectQueue(t, "more bays", exampleTrucks(), bays, two, api.OK)
	}
}

// P8.1: no trucks, and one.
func TestQueueOfFew(t *testing.T) {
	for bays := 1; bays <= 8; bays++ {
		expectQueue(t, "none", nil, bays, nil, api.OK)
		expectQueue(t, "none", []api.Truck{}, bays, nil, api.OK)
		expectQueue(t, "at 0", []api.Truck{{}}, bays, []api.Visit{{}}, api.OK)
		expectQueue(t, "one", []api.Truck{exact(7, 5)}, bays, []api.Visit{exactly(7, 12, 0)}, api.OK)
		last := api.Truck{Arrive: span(0, 1<<20), Work: span(0, 1440)}
		expectQueue(t, "all that can be", []api.Truck{last}, bays, []api.Visit{visit(last.Arrive, span(0, 1<<20+1440), one(0))}, api.OK)
	}
}

// P8.1: trucks that are known exactly, by hand.
func TestQueueByHand(t *testing.T) {
	same := []api.Truck{exact(10, 5), exact(10, 3), exact(10, 4), exact(10, 1), exact(30, 2)}
	for _, c := range []struct {
		name string
		l    []api.Truck
		bays int
		want []api.Visit
	}{
		{"one bay", same, 1, []api.Visit{exactly(10, 15, 0), exactly(15, 18, 5), exactly(18, 22, 8), exactly(22, 23, 12), exactly(30, 32, 0)}},
		{"two bays", same, 2, []api.Visit{exactly(10, 15, 0), exactly(10, 13, 0), exactly(13, 17, 3), exactly(15, 16, 5), exactly(30, 32, 0)}},
		{"three bays", same, 3, []api.Visit{exactly(10, 15, 0), exactly(10, 13, 0), exactly(10, 14, 0), exactly(13, 14, 3), exactly(30, 32, 0)}},
		{"four bays", same, 4, []api.Visit{exactly(10, 15, 0), exactly(10, 13, 0), exactly(10, 14, 0), exactly(10, 11, 0), exactly(30, 32, 0)}},
		{"behind the truck ahead", []api.Truck{exact(20, 9), exact(5, 1), exact(0, 1)}, 3, []api.Visit{exactly(20, 29, 0), exactly(20, 21, 15), exactly(20, 21, 20)}},
		{"the bay is free then", []api.Truck{exact(20, 5), exact(25, 1)}, 1, []api.Visit{exactly(20, 25, 0), exactly(25, 26, 0)}},
		{"a minute too early", []api.Truck{exact(20, 5), exact(24, 1)}, 1, []api.Visit{exactly(20, 25, 0), exactly(25, 26, 1)}},
		{"no work", []api.Truck{exact(3, 0), exact(3, 0), exact(2, 0)}, 1, []api.Visit{exactly(3, 3, 0), exactly(3, 3, 0), exactly(3, 3, 1)}},
		{"a later one first in the other bay", []api.Truck{exact(0, 100), exact(0, 10), exact(0, 10), exact(0, 10)}, 2, []api.Visit{exactly(0, 100, 0), exactly(0, 10, 0), exactly(10, 20, 10), exactly(20, 30, 20)}},
	} {
		expectQueue(t, c.name, c.l, c.bays, c.want, api.OK)
	}
}

// P8.1: a truck waits longest if it comes early and the ones ahead are late, and the other way round.
func TestQueueWaits(t *testing.T) {
	sure := api.Truck{Arrive: one(0), Work: span(10, 30)}
	for _, c := range []struct {
		name         string
		arrive, want api.Span
	}{
		{"surely waits", span(2, 8), span(2, 28)}, {"may not wait", span(2, 10), span(0, 28)}, {"far apart", span(0, 100), span(0, 30)},
		{"may have to wait", span(20, 25), span(0, 10)}, {"a minute", span(29, 40), span(0, 1)}, {"surely not", span(30, 31), one(0)}, {"exactly", one(7), span(3, 23)},
	} {
		want := visit(span(max(10, c.arrive.Lo), max(30, c.arrive.Hi)), span(max(10, c.arrive.Lo), max(30, c.arrive.Hi)), c.want)
		expectQueue(t, c.name, []api.Truck{sure, {Arrive: c.arrive}}, 1, []api.Visit{visit(one(0), span(10, 30), one(0)), want}, api.OK)
	}
	late := api.Truck{Arrive: span(50, 70), Work: one(0)}
	expectQueue(t, "behind one that is late", []api.Truck{late, exact(40, 0)}, 8, []api.Visit{visit(late.Arrive, late.Arrive, one(0)), visit(late.Arrive, late.Arrive, span(10, 30))}, api.OK)
}

// P8.1: the numbers of bays that there are.
func TestQueueRange(t *testing.T) {
	for _, bays := range strangeNumbers() {
		for _, l := range [][]api.Truck{nil, exampleTrucks()} {
			want := api.ErrRange
			if bays >= 1 && bays <= 8 {
				want = api.OK
			}
			if v, e := station.Queue(l, bays); e != want || e != api.OK && len(v) > 0 {
				t.Error(bays, v, e)
			}
		}
	}
}

// P8.1: as many trucks as there can be, which all take as long as one can.
func TestQueueAtLimits(t *testing.T) {
	l := slices.Repeat([]api.Truck{{Arrive: span(0, 1<<20), Work: span(0, 1440)}}, 64)
	for bays := 1; bays <= 8; bays++ {
		var want []api.Visit
		for i := range l {
			ahead := i / bays * 1440
			want = append(want, visit(span(0, 1<<20+ahead), span(0, 1<<20+ahead+1440), span(0, 1<<20+ahead)))
		}
		want[0].Wait = one(0)
		expectQueue(t, "limits", l, bays, want, api.OK)
	}
}

// P8.1: as all times of arrival and all work, minute by minute.
func TestQueueIsJudge(t *testing.T) {
	waits, sure := 0, 0
	eachSmall(func(seed uint64, r world) {
		l := r.someTrucks()
		bays := r.between(1, 3)
		want := judgeQueue(l, bays)
		expectQueue(t, "judge", l, bays, want, api.OK)
		for _, v := range want {
			if v.Wait.Hi > 0 {
				waits++
			}
			if v.Wait.Lo > 0 {
				sure++
			}
		}
		if t.Failed() {
			t.Fatal(seed)
		}
	})
	if min(waits, sure) < 100 {
		t.Error("too few", waits, sure)
	}
}

// P8.1: as the least and the greatest of all that is given, of many trucks.
func TestQueueOfManyIsJudge(t *testing.T) {
	waits := 0
	eachWorld(func(seed uint64, r world) {
		l := r.someTrucks()
		bays := r.someBays()
		early, late := live(truths(l, lowest), bays), live(truths(l, highest), bays)
		v, e := station.Queue(l, bays)
		if len(v) != len(l) || e != api.OK {
			t.Fatal(seed, l, bays, v, e)
		}
		for i := range l {
			// The wait is least if all trucks ahead are early, and this one comes late, and the other way round.
			least, most := truths(l, lowest), truths(l, highest)
			least[i].arrive, most[i].arrive = l[i].Arrive.Hi, l[i].Arrive.Lo
			wait := span(live(least, bays)[i].begin-l[i].Arrive.Hi, live(most, bays)[i].begin-l[i].Arrive.Lo)
			want := visit(span(early[i].begin, late[i].begin), span(early[i].end, late[i].end), wait)
			if v[i] != want {
				t.Fatal(seed, l, bays, i, v[i], want)
			}
			if wait.Hi > 0 {
				waits++
			}
		}
	})
	if waits < 1000 {
		t.Error("too few", waits)
	}
}

func lowest(s api.Span) int { return s.Lo }

func highest(s api.Span) int { return s.Hi }

// truths returns what is true of trucks; pick chooses a number of each span.
func truths(l []api.Truck, pick func(s api.Span) int) []fact {
	var trucks []fact
	for _, t := range l {
		trucks = append(trucks, fact{arrive: pick(t.Arrive), work: pick(t.Work)})
	}
	return trucks
}

// The judges are of one mind: going from event to event is the same as going minute by minute.
func TestJudgesAgree(t *testing.T) {
	for seed := range uint64(400) {
		for _, s := range []sizes{few(), plain()} {
			r := newWorld(seed, s)
			l := r.someTrucks()
			bays := r.someBays()
			trucks := truths(l, func(s api.Span) int { return r.between(s.Lo, s.Hi) })
			if a, b := live(trucks, bays), play(trucks, bays); !slices.Equal(a, b) {
				t.Fatal(seed, trucks, bays, a, b)
			}
		}
	}
}
