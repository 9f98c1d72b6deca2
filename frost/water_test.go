package frost_test

import (
	"slices"
	"testing"

	"fenberry/api"
	"fenberry/frost"
)

// P3.5: the chapter's example, and values by hand.
func TestAlarmByHand(t *testing.T) {
	for _, x := range []struct {
		bud       int
		bias      api.Span
		fall, gap int
		want      int
	}{
		{-50, span(-20, 30), 100, 3, 281},
		{-50, span(-20, 30), 100, 0, -19},
		{-50, span(-20, 30), 0, 3, -19},
		{-50, span(-20, -10), 100, 3, 241},
		{0, span(0, 0), 0, 0, 1},
		{0, span(-1000, 1000), 7, 11, 1078},
		{-5000, span(-1000, -1000), 0, 96, -5999},
		{5000, span(1000, 1000), 1000, 96, 102001},
	} {
		if n, e := frost.Alarm(x.bud, x.bias, x.fall, x.gap); n != x.want || e != api.OK {
			t.Error(x, n, e)
		}
	}
}

// P3.10: a reading that shows at least what Alarm returns means that no bud is hurt until gap slots later; one that shows less by one does not.
func TestAlarmIsTemps(t *testing.T) {
	for seed := range uint64(500) {
		r := newWorld(seed, few())
		gap, fall, bias, bud := r.IntN(12), r.IntN(40), r.someSpan(-60, 60), r.between(-900, 900)
		value, e := frost.Alarm(bud, bias, fall, gap)
		if e != api.OK {
			t.Fatal(seed, e)
		}
		n := api.Night{Slots: r.between(gap+1, 20), Fall: fall, Rise: r.IntN(40), Sensors: []api.Span{bias}}
		slot := r.IntN(n.Slots - gap)
		for _, more := range []int{-1, 0, 1 + r.IntN(9)} {
			n.Readings = []api.Reading{{Slot: slot, Value: value + more}}
			temps, e := frost.Temps(n)
			if e != api.OK {
				t.Fatal(seed, e)
			}
			hurt := slices.ContainsFunc(temps[slot:slot+gap+1], func(s api.Span) bool { return s.Lo <= bud })
			if hurt != (more < 0) {
				t.Fatal(seed, more, value, temps)
			}
		}
	}
}

// P3.6: the chapter's examples, and nights by hand.
func TestEnoughByHand(t *testing.T) {
	const all = api.MaxAmount
	for _, x := range []struct {
		start, full, refill int
		used                []int
		want                int
		e                   api.Errno
	}{
		{100, 200, 50, []int{60, 60, 60, 60}, 0, api.ErrNone},
		{100, 200, 50, []int{60, 60, 60, 60, 61}, 4, api.OK},
		{100, 200, 50, []int{100}, 0, api.ErrNone},
		{100, 200, 50, []int{101}, 0, api.OK},
		{100, 200, 50, []int{101, 0, 999}, 0, api.OK},
		{100, 200, 50, []int{100, 50}, 0, api.ErrNone},
		{100, 200, 50, []int{100, 51}, 1, api.OK},
		{100, 120, 50, []int{0, 120}, 0, api.ErrNone},
		{100, 120, 50, []int{0, 121}, 1, api.OK},
		{100, 120, 50, []int{30, 120}, 0, api.ErrNone},
		{100, 120, 50, []int{31, 120}, 1, api.OK},
		{100, 120, 0, []int{0, 0, 0, 100, 1}, 4, api.OK},
		{100, 100, 0, []int{50, 50, 0, 0}, 0, api.ErrNone},
		{0, 0, 0, []int{0, 0, 0}, 0, api.ErrNone},
		{0, 0, all, []int{0, 1}, 1, api.OK},
		{0, all, all, []int{0, all, all}, 0, api.ErrNone},
		{all, all, all, []int{0, all, all}, 0, api.ErrNone},
		{0, 9, 0, nil, 0, api.ErrNone},
		{5, 9, 1, slices.Repeat([]int{1}, 64), 0, api.ErrNone},
		{5, 9, 1, append(slices.Repeat([]int{1}, 63), 6), 63, api.OK},
	} {
		if n, e := frost.Enough(x.start, x.full, x.refill, x.used); n != x.want || e != x.e {
			t.Error(x, n, e)
		}
	}
}

// P3.6, P3.10: night by night; nights that are enough are enough for fewer.
func TestEnoughIsEnoughForFewer(t *testing.T) {
	short, enough := 0, 0
	for seed := range uint64(500) {
		r := newWorld(seed, few())
		full, refill := r.IntN(60), r.IntN(12)
		start := r.IntN(full + 1)
		var used []int
		for range r.IntN(15) {
			used = append(used, r.IntN(16))
		}
		water, want, wantError := start, 0, api.ErrNone
		for night, litres := range used {
			if water < litres {
				want, wantError = night, api.OK
				break
			}
			water = min(full, water-litres+refill)
		}
		if night, e := frost.Enough(start, full, refill, used); night != want || e != wantError {
			t.Fatal(seed, night, e, want)
		}
		for nights := range len(used) {
			night, e := frost.Enough(start, full, refill, used[:nights])
			if isShort := wantError == api.OK && want < nights; isShort != (e == api.OK) || night != want*btoi(isShort) {
				t.Fatal(seed, nights, night, e, want)
			}
		}
		short, enough = short+btoi(wantError == api.OK), enough+btoi(wantError == api.ErrNone)
	}
	if min(short, enough) < 100 {
		t.Error("too few", short, enough)
	}
}

func btoi(b bool) int {
	if b {
		return 1
	}
	return 0
}
