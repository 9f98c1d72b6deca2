package frost_test

import (
	"math"
	"slices"
	"testing"

	"fenberry/api"
	"fenberry/frost"
)

// allRefuse checks that Save and Hinders return want, and nothing else, whatever the set is.
func allRefuse(t *testing.T, name string, want api.Errno, n api.Night, l []api.FrostBed, p api.Pumping) {
	t.Helper()
	if s, e := frost.Save(n, l, p); !sameSaving(s, api.Saving{}) || e != want {
		t.Error(name, "Save", s, e)
	}
	for _, set := range [][]int{nil, {0}, {1, 0}, {99}} {
		if why, at, e := frost.Hinders(n, l, p, set); why != 0 || at != 0 || e != want {
			t.Error(name, "Hinders", set, why, at, e)
		}
	}
}

// nightRefused checks that all functions return want, and nothing else, for a night.
func nightRefused(t *testing.T, name string, want api.Errno, n api.Night) {
	t.Helper()
	_, l, p := example()
	allRefuse(t, name, want, n, l, p)
	if s, e := frost.Temps(n); len(s) != 0 || e != want {
		t.Error(name, "Temps", s, e)
	}
	for _, to := range []int{2, -1, 99} {
		if slot, e := frost.Ice(n, 0, to, 9, 1); slot != 0 || e != want {
			t.Error(name, "Ice", to, slot, e)
		}
	}
}

// nightChange is something that makes a night valid or not.
type nightChange struct {
	name  string
	valid bool
	do    func(n *api.Night)
}

func nightChanges() []nightChange {
	l := []nightChange{
		{"8 sensors", true, func(n *api.Night) { n.Sensors = slices.Repeat(n.Sensors, 8) }},
		{"9 sensors", false, func(n *api.Night) { n.Sensors = slices.Repeat(n.Sensors, 9) }},
		{"128 readings", true, func(n *api.Night) { n.Readings = slices.Repeat(n.Readings, 64) }},
		{"129 readings", false, func(n *api.Night) { n.Readings = append(slices.Repeat(n.Readings, 64), n.Readings[0]) }},
		{"no sensors and readings", true, func(n *api.Night) { n.Sensors, n.Readings = nil, nil }},
		{"no sensors", false, func(n *api.Night) { n.Sensors = nil }},
		{"no readings", true, func(n *api.Night) { n.Readings = []api.Reading{} }},
		{"a second sensor", true, func(n *api.Night) { n.Sensors = append(n.Sensors, span(-20, 30)); n.Readings[1].Sensor = 1 }},
		{"a bad sensor without readings", false, func(n *api.Night) { n.Sensors = append(n.Sensors, span(1, 0)) }},
		{"no slots", false, func(n *api.Night) { n.Slots, n.Readings = 0, nil }},
		{"fewer than no slots", false, func(n *api.Night) { n.Slots, n.Readings = -1, nil }},
		{"one slot", true, func(n *api.Night) { n.Slots, n.Readings = 1, nil }},
		{"the last slot", true, func(n *api.Night) { n.Readings[1].Slot = 7 }},
		{"just enough slots", true, func(n *api.Night) { n.Slots = 5 }},
	}
	number := func(name string, field func(n *api.Night) *int, valid bool, values ...int) {
		for _, x := range values {
			l = append(l, nightChange{name, valid, func(n *api.Night) { *field(n) = x }})
		}
	}
	number("slots", func(n *api.Night) *int { return &n.Slots }, true, 5, 95, 96)
	number("slots", func(n *api.Night) *int { return &n.Slots }, false, math.MinInt, -1, 0, 4, 97, math.MaxInt)
	number("fall", func(n *api.Night) *int { return &n.Fall }, true, 50, 999, 1000)
	number("fall", func(n *api.Night) *int { return &n.Fall }, false, math.MinInt, -1, 1001, math.MaxInt)
	number("rise", func(n *api.Night) *int { return &n.Rise }, true, 0, 1, 1000)
	number("rise", func(n *api.Night) *int { return &n.Rise }, false, math.MinInt, -1, 1001, math.MaxInt)
	number("bias", func(n *api.Night) *int { return &n.Sensors[0].Lo }, true, -1000, 29, 30)
	number("bias", func(n *api.Night) *int { return &n.Sensors[0].Lo }, false, math.MinInt, -1001, 31, math.MaxInt)
	number("bias", func(n *api.Night) *int { return &n.Sensors[0].Hi }, true, -20, 1000)
	number("bias", func(n *api.Night) *int { return &n.Sensors[0].Hi }, false, math.MinInt, -21, 1001, math.MaxInt)
	number("sensor", func(n *api.Night) *int { return &n.Readings[1].Sensor }, false, math.MinInt, -1, 1, math.MaxInt)
	number("slot", func(n *api.Night) *int { return &n.Readings[1].Slot }, false, math.MinInt, -1, 8, math.MaxInt)
	number("value", func(n *api.Night) *int { return &n.Readings[1].Value }, false, math.MinInt, -5001, 5001, math.MaxInt)
	number("first value", func(n *api.Night) *int { return &n.Readings[0].Value }, false, math.MinInt, -5001, 5001, math.MaxInt)
	return l
}

// P3.1 to P3.4: what makes a night valid, whatever else is wrong.
func TestNights(t *testing.T) {
	for _, x := range nightChanges() {
		n, l, p := example()
		x.do(&n)
		if !x.valid {
			nightRefused(t, x.name, api.ErrArg, n)
			continue
		}
		_, e1 := frost.Temps(n)
		_, e2 := frost.Save(n, l, p)
		_, _, e3 := frost.Hinders(n, l, p, []int{0})
		_, e4 := frost.Ice(n, 0, n.Slots-1, 0, 0)
		if e1 != api.OK || e2 != api.OK || e3 != api.OK || e4 != api.ErrNone {
			t.Error(x.name, e1, e2, e3, e4)
		}
	}
	for _, value := range []int{-5000, 5000} {
		n := api.Night{Slots: 1, Sensors: []api.Span{{}}, Readings: []api.Reading{{Value: value}}}
		if s, e := frost.Temps(n); !slices.Equal(s, []api.Span{span(value, value)}) || e != api.OK {
			t.Error(value, s, e)
		}
	}
}

// P3.1 to P3.4: ErrState for a night without a course, behind ErrArg, ahead of ErrRange.
func TestNightsWithoutCourse(t *testing.T) {
	n, l, p := example()
	n.Readings[1].Value = -500
	nightRefused(t, "a fall", api.ErrState, n)
	_, e := frost.Ice(n, -1, 99, -1, -1)
	if e != api.ErrState {
		t.Error(e)
	}
	l[0].Flow = 0
	allRefuse(t, "beds ahead of the course", api.ErrArg, n, l, p)
	_, l, _ = example()
	p.Fails = 3
	allRefuse(t, "pumping ahead of the course", api.ErrArg, n, l, p)
	n.Readings[1].Value = 500
	n.Rise = 10
	nightRefused(t, "a rise", api.ErrState, n)
	n.Readings = []api.Reading{{Value: 0}, {Value: 51}}
	nightRefused(t, "one slot", api.ErrState, n)
	n.Slots = 97
	nightRefused(t, "too many slots", api.ErrArg, n)
}

// P3.2, P3.3: what makes beds valid.
func TestBeds(t *testing.T) {
	n, _, p := example()
	check := func(name string, valid bool, l []api.FrostBed) {
		t.Helper()
		if !valid {
			allRefuse(t, name, api.ErrArg, n, l, p)
			return
		}
		if _, e := frost.Save(n, l, p); e != api.OK {
			t.Error(name, "Save", e)
		}
		if _, _, e := frost.Hinders(n, l, p, nil); e != api.OK {
			t.Error(name, "Hinders", e)
		}
	}
	number := func(name string, field func(b *api.FrostBed) *int, valid bool, values ...int) {
		t.Helper()
		for _, x := range values {
			for i := range 4 {
				_, l, _ := example()
				*field(&l[i]) = x
				check(name, valid, l)
			}
		}
	}
	number("bud", func(b *api.FrostBed) *int { return &b.Bud }, true, -5000, 0, 5000)
	number("bud", func(b *api.FrostBed) *int { return &b.Bud }, false, math.MinInt, -5001, 5001, math.MaxInt)
	number("cold", func(b *api.FrostBed) *int { return &b.Cold.Lo }, false, math.MinInt, -1, 51, 1001, math.MaxInt)
	number("cold", func(b *api.FrostBed) *int { return &b.Cold.Hi }, true, 0, 1000)
	number("cold", func(b *api.FrostBed) *int { return &b.Cold.Hi }, false, math.MinInt, -1, 1001, math.MaxInt)
	number("lead", func(b *api.FrostBed) *int { return &b.Lead }, true, 0, 96)
	number("lead", func(b *api.FrostBed) *int { return &b.Lead }, false, math.MinInt, -1, 97, math.MaxInt)
	number("tail", func(b *api.FrostBed) *int { return &b.Tail }, true, 0, 96)
	number("tail", func(b *api.FrostBed) *int { return &b.Tail }, false, math.MinInt, -1, 97, math.MaxInt)
	number("flow", func(b *api.FrostBed) *int { return &b.Flow }, true, 1, api.MaxPump)
	number("flow", func(b *api.FrostBed) *int { return &b.Flow }, false, math.MinInt, -1, 0, api.MaxPump+1, math.MaxInt)
	_, l, _ := example()
	check("no beds", true, nil)
	check("12 beds", true, slices.Repeat(l, 3))
	check("13 beds", false, append(slices.Repeat(l, 3), l[0]))
	l[0].Cold = span(30, 30)
	check("exactly so cold", true, l)
	l[0].Cold = span(30, 29)
	check("no span", false, l)
}

// P3.2, P3.3: what makes pumping valid.
func TestPumpings(t *testing.T) {
	n, l, _ := example()
	check := func(name string, valid bool, p api.Pumping) {
		t.Helper()
		if !valid {
			allRefuse(t, name, api.ErrArg, n, l, p)
			return
		}
		if _, e := frost.Save(n, l, p); e != api.OK {
			t.Error(name, "Save", e)
		}
		if _, _, e := frost.Hinders(n, l, p, []int{0, 1}); e != api.OK {
			t.Error(name, "Hinders", e)
		}
	}
	number := func(name string, field func(p *api.Pumping) *int, valid bool, values ...int) {
		t.Helper()
		for _, x := range values {
			_, _, p := example()
			*field(&p) = x
			check(name, valid, p)
		}
	}
	number("pump", func(p *api.Pumping) *int { return &p.Pumps[1] }, true, 0, api.MaxPump)
	number("pump", func(p *api.Pumping) *int { return &p.Pumps[1] }, false, math.MinInt, -1, api.MaxPump+1, math.MaxInt)
	number("first pump", func(p *api.Pumping) *int { return &p.Pumps[0] }, false, -1, api.MaxPump+1)
	number("fails", func(p *api.Pumping) *int { return &p.Fails }, true, 0, 1, 2)
	number("fails", func(p *api.Pumping) *int { return &p.Fails }, false, math.MinInt, -1, 3, math.MaxInt)
	number("water", func(p *api.Pumping) *int { return &p.Water }, true, 0, api.MaxAmount)
	number("water", func(p *api.Pumping) *int { return &p.Water }, false, math.MinInt, -1, api.MaxAmount+1, math.MaxInt)
	check("no pumps", true, api.Pumping{})
	check("no pumps fail", false, api.Pumping{Fails: 1})
	check("8 pumps", true, api.Pumping{Pumps: make([]int, 8), Fails: 8})
	check("9 pumps", false, api.Pumping{Pumps: make([]int, 9)})
}

// P3.3: ErrRange unless the set is strictly rising, and all of it are indices of beds.
func TestSets(t *testing.T) {
	n, l, p := example()
	for _, x := range []struct {
		set  []int
		want api.Errno
	}{
		{nil, api.OK}, {[]int{}, api.OK}, {[]int{0}, api.OK}, {[]int{3}, api.OK}, {[]int{0, 3}, api.OK}, {[]int{0, 1, 2, 3}, api.OK},
		{[]int{4}, api.ErrRange}, {[]int{-1}, api.ErrRange}, {[]int{-1, 0}, api.ErrRange}, {[]int{0, 4}, api.ErrRange}, {[]int{math.MinInt}, api.ErrRange}, {[]int{math.MaxInt}, api.ErrRange},
		{[]int{0, 0}, api.ErrRange}, {[]int{1, 0}, api.ErrRange}, {[]int{0, 2, 1}, api.ErrRange}, {[]int{0, 2, 2}, api.ErrRange}, {[]int{0, 1, 2, 3, 4}, api.ErrRange}, {make([]int, 99), api.ErrRange},
	} {
		why, at, e := frost.Hinders(n, l, p, x.set)
		if e != x.want || e != api.OK && (why != 0 || at != 0) {
			t.Error(x.set, why, at, e)
		}
	}
	if _, _, e := frost.Hinders(n, nil, p, []int{0}); e != api.ErrRange {
		t.Error(e)
	}
	if _, _, e := frost.Hinders(n, nil, p, nil); e != api.OK {
		t.Error(e)
	}
}

// P3.4: ErrRange unless the slots are slots, and gain and limit are amounts.
func TestIceErrors(t *testing.T) {
	n, _, _ := example()
	const all = api.MaxAmount
	for _, x := range []struct {
		from, to, gain, limit int
		want                  api.Errno
	}{
		{0, 7, all, all, api.OK}, {0, 7, 0, 0, api.ErrNone}, {7, 7, 0, all, api.ErrNone}, {0, 0, 0, 0, api.ErrNone},
		{-1, 7, 0, 0, api.ErrRange}, {0, 8, 0, 0, api.ErrRange}, {8, 8, 0, 0, api.ErrRange}, {3, 2, 0, 0, api.ErrRange}, {0, -1, 0, 0, api.ErrRange}, {-1, -1, 0, 0, api.ErrRange},
		{math.MinInt, 7, 0, 0, api.ErrRange}, {0, math.MaxInt, 0, 0, api.ErrRange}, {math.MaxInt, math.MinInt, 0, 0, api.ErrRange},
		{0, 7, -1, 0, api.ErrRange}, {0, 7, all + 1, 0, api.ErrRange}, {0, 7, math.MaxInt, 0, api.ErrRange}, {0, 7, math.MinInt, 0, api.ErrRange},
		{0, 7, 0, -1, api.ErrRange}, {0, 7, 0, all + 1, api.ErrRange}, {0, 7, 9, math.MaxInt, api.ErrRange}, {0, 7, 9, math.MinInt, api.ErrRange},
	} {
		slot, e := frost.Ice(n, x.from, x.to, x.gain, x.limit)
		if e != x.want || e != api.OK && slot != 0 {
			t.Error(x, slot, e)
		}
	}
}

// P3.5: ErrRange beyond each limit.
func TestAlarmErrors(t *testing.T) {
	for _, x := range []struct {
		bud       int
		bias      api.Span
		fall, gap int
		want      api.Errno
	}{
		{-5000, span(-1000, 1000), 0, 0, api.OK}, {5000, span(-1000, -1000), 1000, 96, api.OK}, {5000, span(1000, 1000), 1000, 96, api.OK},
		{-5001, span(0, 0), 0, 0, api.ErrRange}, {5001, span(0, 0), 0, 0, api.ErrRange}, {math.MinInt, span(0, 0), 0, 0, api.ErrRange}, {math.MaxInt, span(0, 0), 0, 0, api.ErrRange},
		{0, span(1, 0), 0, 0, api.ErrRange}, {0, span(-1001, 0), 0, 0, api.ErrRange}, {0, span(0, 1001), 0, 0, api.ErrRange}, {0, span(math.MinInt, math.MaxInt), 0, 0, api.ErrRange}, {0, span(1001, 1001), 0, 0, api.ErrRange}, {0, span(-1001, -1001), 0, 0, api.ErrRange},
		{0, span(0, 0), -1, 0, api.ErrRange}, {0, span(0, 0), 1001, 0, api.ErrRange}, {0, span(0, 0), math.MinInt, 0, api.ErrRange}, {0, span(0, 0), math.MaxInt, 0, api.ErrRange},
		{0, span(0, 0), 0, -1, api.ErrRange}, {0, span(0, 0), 0, 97, api.ErrRange}, {0, span(0, 0), 0, math.MinInt, api.ErrRange}, {0, span(0, 0), 0, math.MaxInt, api.ErrRange},
	} {
		value, e := frost.Alarm(x.bud, x.bias, x.fall, x.gap)
		if e != x.want || e != api.OK && value != 0 {
			t.Error(x, value, e)
		}
	}
}

// P3.6: ErrLong ahead of ErrRange, and that ahead of what is not enough.
func TestEnoughErrors(t *testing.T) {
	const all = api.MaxAmount
	for _, x := range []struct {
		start, full, refill int
		used                []int
		want                api.Errno
	}{
		{0, 0, 0, make([]int, 64), api.ErrNone}, {0, 0, 0, make([]int, 65), api.ErrLong}, {-1, -1, -1, make([]int, 65), api.ErrLong}, {0, 0, 0, slices.Repeat([]int{-1}, 65), api.ErrLong},
		{all, all, all, []int{all}, api.ErrNone}, {0, all, 0, []int{0}, api.ErrNone},
		{-1, 4, 0, nil, api.ErrRange}, {5, 4, 0, nil, api.ErrRange}, {4, 4, 0, nil, api.ErrNone}, {all + 1, all + 1, 0, nil, api.ErrRange}, {math.MinInt, 0, 0, nil, api.ErrRange}, {math.MaxInt, math.MaxInt, 0, nil, api.ErrRange},
		{0, -1, 0, nil, api.ErrRange}, {0, all + 1, 0, nil, api.ErrRange}, {0, math.MaxInt, 0, nil, api.ErrRange}, {-1, -1, 0, nil, api.ErrRange},
		{0, 4, -1, nil, api.ErrRange}, {0, 4, all + 1, nil, api.ErrRange}, {0, 4, math.MinInt, nil, api.ErrRange}, {0, 4, math.MaxInt, nil, api.ErrRange},
		{0, 4, 0, []int{9, -1}, api.ErrRange}, {0, 4, 0, []int{9, all + 1}, api.ErrRange}, {0, 4, 0, []int{math.MinInt}, api.ErrRange}, {0, 4, 0, []int{math.MaxInt}, api.ErrRange}, {0, 4, 0, []int{9, all}, api.OK},
	} {
		night, e := frost.Enough(x.start, x.full, x.refill, x.used)
		if e != x.want || night != 0 {
			t.Error(x, night, e)
		}
	}
}

// P1: no argument makes a function panic.
func TestNoPanic(t *testing.T) {
	r := newWorld(1, few())
	odd := strangeNumbers()
	strange := func(numbers ...*int) {
		for _, n := range numbers {
			if r.IntN(25) == 0 {
				*n = odd[r.IntN(len(odd))]
			}
		}
	}
	for range 4000 {
		n, l, p := example()
		strange(&n.Slots, &n.Fall, &n.Rise, &n.Sensors[0].Lo, &n.Sensors[0].Hi)
		for i := range n.Readings {
			x := &n.Readings[i]
			strange(&x.Sensor, &x.Slot, &x.Value)
		}
		for i := range l {
			b := &l[i]
			strange(&b.Bud, &b.Cold.Lo, &b.Cold.Hi, &b.Lead, &b.Tail, &b.Flow)
		}
		l = l[:r.IntN(5)]
		strange(&p.Pumps[0], &p.Pumps[1], &p.Fails, &p.Water)
		var x [8]int
		for i := range x {
			strange(&x[i], &x[i], &x[i])
		}
		frost.Temps(n)
		frost.Save(n, l, p)
		frost.Hinders(n, l, p, x[:r.IntN(9)])
		frost.Ice(n, x[0], x[1], x[2], x[3])
		frost.Alarm(x[0], span(x[1], x[2]), x[3], x[4])
		frost.Enough(x[0], x[1], x[2], x[3:])
	}
}
