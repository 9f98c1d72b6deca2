package station_test

import (
	"slices"
	"testing"

	"fenberry/api"
	"fenberry/station"
)

// P8.2: the chapter's examples.
func TestBaysExamples(t *testing.T) {
	for _, c := range []struct {
		most, want int
		e          api.Errno
	}{
		{1 << 20, 1, api.OK}, {51, 1, api.OK}, {50, 1, api.OK}, {49, 2, api.OK}, {21, 2, api.OK}, {20, 2, api.OK}, {19, 0, api.ErrNone}, {0, 0, api.ErrNone},
	} {
		expectBays(t, "example", exampleTrucks(), c.most, c.want, c.e)
	}
}

// P8.2: no trucks, and trucks that cannot wait, need one bay.
func TestBaysOfFew(t *testing.T) {
	for _, most := range []int{0, 1, 1 << 20} {
		expectBays(t, "none", nil, most, 1, api.OK)
		expectBays(t, "none", []api.Truck{}, most, 1, api.OK)
		expectBays(t, "one", []api.Truck{{Arrive: span(0, 1<<20), Work: span(0, 1440)}}, most, 1, api.OK)
		expectBays(t, "far apart", []api.Truck{exact(0, 10), exact(10, 10), exact(20, 10)}, most, 1, api.OK)
		expectBays(t, "no work", []api.Truck{exact(5, 0), exact(5, 0), exact(5, 0)}, most, 1, api.OK)
	}
}

// P8.2: trucks that come together.
func TestBaysOfTrucksThatComeTogether(t *testing.T) {
	for trucks := 1; trucks <= 64; trucks++ {
		l := slices.Repeat([]api.Truck{exact(50, 10)}, trucks)
		for bays := 1; bays <= 8; bays++ {
			wait := (trucks - 1) / bays * 10
			least := 1
			for (trucks-1)/least*10 > wait {
				least++
			}
			expectBays(t, "together", l, wait, least, api.OK)
			expectBays(t, "together", l, wait+9, least, api.OK)
		}
		if trucks > 8 {
			expectBays(t, "together", l, (trucks-1)/8*10-1, 0, api.ErrNone)
		}
	}
}

// P8.2: what counts is how long a truck can wait, not how long it surely waits; and any truck, not the last one.
func TestBaysLookAtTheLongestWait(t *testing.T) {
	l := []api.Truck{{Arrive: one(0), Work: span(0, 30)}, {Arrive: span(0, 30), Work: one(0)}, exact(1000, 0)}
	expectBays(t, "may wait", l, 30, 1, api.OK)
	expectBays(t, "may wait", l, 29, 2, api.OK)
	late := []api.Truck{{Arrive: span(0, 30), Work: one(0)}, exact(0, 0)}
	expectBays(t, "behind one that may be late", late, 30, 1, api.OK)
	expectBays(t, "behind one that may be late", late, 29, 0, api.ErrNone)
}

// P8.2: ErrRange unless most is a time.
func TestBaysRange(t *testing.T) {
	for _, most := range strangeNumbers() {
		want := api.ErrRange
		if most >= 0 && most <= 1<<20 {
			want = api.OK
		}
		n, e := station.Bays(nil, most)
		if e != want || e != api.OK && n != 0 {
			t.Error(most, n, e)
		}
	}
	// Also if no truck can wait for longer than a time.
	long := slices.Repeat([]api.Truck{{Arrive: span(0, 1<<20), Work: one(1440)}}, 64)
	expectBays(t, "long", long, 1<<20, 0, api.ErrNone)
	expectBays(t, "long", long, 1<<20+100*1440, 0, api.ErrRange)
	expectBays(t, "as long as a time", long[:8], 1<<20, 8, api.OK)
}

// P8.2: as trying all numbers of bays, with all that can be true.
func TestBaysIsJudge(t *testing.T) {
	counts := map[int]int{}
	eachSmall(func(seed uint64, r world) {
		l := r.someTrucks()
		for most := range 8 {
			want, e := judgeBays(l[:min(3, len(l))], most, judgeQueue)
			expectBays(t, "judge", l[:min(3, len(l))], most, want, e)
			counts[want]++
		}
		if t.Failed() {
			t.Fatal(seed)
		}
	})
	if min(counts[0], counts[1], counts[2]) < 100 || counts[3] < 5 {
		t.Error("too few", counts)
	}
}

// P8.2: as Queue says of many trucks, also a minute below and above what they wait for.
func TestBaysIsQueue(t *testing.T) {
	counts := map[int]int{}
	for seed := range uint64(300) {
		for _, s := range []sizes{plain(), great()} {
			s.work *= 2
			s.work = min(s.work, api.MaxWork)
			r := newWorld(seed, s)
			l := r.someTrucks()
			for bays := 1; bays <= 8; bays++ {
				wait := 0
				for _, v := range given(l, bays) {
					wait = max(wait, v.Wait.Hi)
				}
				for most := max(0, wait-1); most <= min(wait+1, api.MaxTime); most++ {
					want, e := judgeBays(l, most, given)
					expectBays(t, "queue", l, most, want, e)
					counts[want]++
				}
			}
			if t.Failed() {
				t.Fatal(seed)
			}
		}
	}
	for bays := range 9 {
		if counts[bays] < 20 {
			t.Error("too few", counts)
		}
	}
}
