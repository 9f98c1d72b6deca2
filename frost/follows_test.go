package frost_test

import (
	"slices"
	"testing"

	"fenberry/api"
	"fenberry/frost"
)

// P3.8: whatever the course is, in each slot in which a bed may be as cold as Bud it is not called safe, and the sprinklers of those that are saved run, and have run for Lead slots.
func TestNoBudIsHurt(t *testing.T) {
	cold := 0
	eachWorld(func(seed uint64, r world) {
		course, n, l, p := r.someOfAll()
		s, _ := frost.Save(n, l, p)
		temps, _ := frost.Temps(n)
		for i, b := range l {
			colder := r.part(b.Cold)
			slots := running(b, temps)
			for slot, temp := range course {
				if temp-colder > b.Bud {
					continue
				}
				cold++
				if slices.Contains(s.Safe, i) {
					t.Fatal(seed, i, slot, "is not safe")
				}
				if slices.Contains(s.Saved, i) && (slot < b.Lead || !slices.Contains(slots, slot-b.Lead) || !slices.Contains(slots, slot)) {
					t.Fatal(seed, i, slot, "does not run")
				}
			}
		}
	})
	if cold < 50 {
		t.Error("too few", cold)
	}
}

// P3.8: whichever pumps fail, they give enough in each slot, and there is enough water.
func TestWhicheverPumpsFail(t *testing.T) {
	promised := 0
	eachWorld(func(seed uint64, r world) {
		_, n, l, p := r.someOfAll()
		s, _ := frost.Save(n, l, p)
		temps, _ := frost.Temps(n)
		loads, litres := make([]int, n.Slots), 0
		for _, i := range s.Saved {
			for _, slot := range running(l[i], temps) {
				loads[slot] += l[i].Flow
				litres += l[i].Flow
			}
		}
		if litres != s.Used || litres > p.Water {
			t.Fatal(seed, litres, s.Used, p.Water)
		}
		for run := range setsOf(p.Pumps) {
			sum := 0
			for _, n := range run {
				sum += n
			}
			if len(run) == len(p.Pumps)-p.Fails && sum < slices.Max(loads) {
				t.Fatal(seed, run, loads)
			}
		}
		if len(s.Lost) == 0 && len(s.Saved) > 0 {
			promised++
		}
	})
	if promised < 20 {
		t.Error("too few", promised)
	}
}

// P3.9: each set of beds that need something, and that is greater than Saved, is hindered; Saved is not.
func TestEachGreaterSetIsHindered(t *testing.T) {
	greater := 0
	eachWorld(func(seed uint64, r world) {
		_, n, l, p := r.someOfAll()
		s, _ := frost.Save(n, l, p)
		if why, at, e := frost.Hinders(n, l, p, s.Saved); why != api.Nothing || at != 0 || e != api.OK {
			t.Fatal(seed, s, why, at, e)
		}
		needy := slices.Sorted(slices.Values(slices.Concat(s.Saved, s.Lost)))
		for set := range setsOf(needy) {
			if len(set) <= len(s.Saved) {
				continue
			}
			greater++
			if why, _, e := frost.Hinders(n, l, p, set); why == api.Nothing || e != api.OK {
				t.Fatal(seed, s, set, why, e)
			}
		}
	})
	if greater < 100 {
		t.Error("too few", greater)
	}
}

// P3.9: with more water, one more pump, or fewer that may fail, no more are lost.
func TestMoreSavesMore(t *testing.T) {
	fewer := 0
	eachWorld(func(seed uint64, r world) {
		_, n, l, p := r.someOfAll()
		s, _ := frost.Save(n, l, p)
		wet, strong, sure := p, p, p
		wet.Water = min(api.MaxAmount, p.Water+1+r.IntN(30*r.flow))
		strong.Pumps = append(slices.Clone(p.Pumps), r.IntN(r.flow+1))
		sure.Fails = max(0, p.Fails-1)
		for i, better := range []api.Pumping{wet, strong, sure} {
			if len(better.Pumps) > api.MaxPumps {
				continue
			}
			s2, e := frost.Save(n, l, better)
			if len(s2.Lost) > len(s.Lost) || !slices.Equal(s.Safe, s2.Safe) || e != api.OK {
				t.Fatal(seed, i, s, s2, e)
			}
			if len(s2.Lost) < len(s.Lost) {
				fewer++
			}
		}
	})
	if fewer < 50 {
		t.Error("too few", fewer)
	}
}

// P3.2, P11: the order of pumps, of sensors and of readings makes no difference.
func TestAnyOrder(t *testing.T) {
	eachWorld(func(seed uint64, r world) {
		_, n, l, p := r.someOfAll()
		s, _ := frost.Save(n, l, p)
		temps, _ := frost.Temps(n)
		n.Readings, p.Pumps = slices.Clone(n.Readings), slices.Clone(p.Pumps)
		r.Shuffle(len(n.Readings), func(i, k int) { n.Readings[i], n.Readings[k] = n.Readings[k], n.Readings[i] })
		r.Shuffle(len(p.Pumps), func(i, k int) { p.Pumps[i], p.Pumps[k] = p.Pumps[k], p.Pumps[i] })
		slices.Reverse(n.Sensors)
		for i := range n.Readings {
			n.Readings[i].Sensor = len(n.Sensors) - 1 - n.Readings[i].Sensor
		}
		s2, _ := frost.Save(n, l, p)
		temps2, _ := frost.Temps(n)
		if !sameSaving(s, s2) || !slices.Equal(temps, temps2) {
			t.Fatal(seed, s, s2)
		}
	})
}

// R4: arguments are only read, and results are new.
func TestMemory(t *testing.T) {
	n, l, p := example()
	n2, l2, p2 := example()
	p.Pumps, p2.Pumps = []int{25, 10, 20}, []int{25, 10, 20}
	set, used := []int{0, 1, 2, 3}, []int{1, 2, 3}
	isSame := func() bool {
		night := slices.Equal(n.Sensors, n2.Sensors) && slices.Equal(n.Readings, n2.Readings)
		return night && slices.Equal(l, l2) && slices.Equal(p.Pumps, p2.Pumps) && slices.Equal(set, []int{0, 1, 2, 3}) && slices.Equal(used, []int{1, 2, 3})
	}
	temps, _ := frost.Temps(n)
	s, _ := frost.Save(n, l, p)
	frost.Hinders(n, l, p, set)
	frost.Ice(n, 0, 7, 1, 1)
	frost.Enough(9, 9, 9, used)
	if !isSame() {
		t.Error(n, l, p, set, used)
	}
	// A result that is changed, or to which something is appended, changes no other one.
	clear(temps)
	clear(s.Saved)
	_ = append(s.Safe, 77)
	_ = append(s.Saved, 77)
	if !slices.Equal(s.Safe, []int{2}) || !slices.Equal(s.Lost, []int{3}) || !isSame() {
		t.Error("shared", s)
	}
	TestTempsExample(t)
	TestSaveExamples(t)
}
