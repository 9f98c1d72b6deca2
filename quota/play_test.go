package quota_test

import (
	"slices"
	"testing"

	"fenberry/api"
	"fenberry/quota"
)

// P12.3: the chapter's example, event by event.
func TestPlayExample(t *testing.T) {
	l, g, events := exampleCrops(), exampleGlut(), exampleEvents()
	for n, want := range [][]api.Account{
		{{Grower: 3, Quota: 1147}, {Grower: 8, Quota: 425}},
		{{Grower: 3, Quota: 1147, Used: 1000}, {Grower: 8, Quota: 425}},
		{{Grower: 3, Quota: 1247, Used: 1000}, {Grower: 8, Quota: 325}},
		{{Grower: 3, Quota: 1247, Used: 1247, Excess: 53}, {Grower: 8, Quota: 325}},
		{{Grower: 3, Quota: 1247, Used: 1247, Excess: 53}, {Grower: 8, Quota: 325, Used: 325, Excess: 75}},
	} {
		expectPlay(t, "example", l, g, events[:n], want, n, api.OK)
	}
	expectPlay(t, "nothing", l, g, nil, []api.Account{{Grower: 3, Quota: 1147}, {Grower: 8, Quota: 425}}, 0, api.OK)
	expectPlay(t, "nobody", nil, g, nil, nil, 0, api.OK)
}

// P12.3: what is brought is used as far as the quota goes; what was excess stays excess.
func TestPlayBrings(t *testing.T) {
	l, g := lastYear(100, 50), api.Glut{Year: 2026, Years: 1, Best: 1, Percent: 1000}
	other := api.Account{Grower: 1, Quota: 50}
	for n, want := range map[int]api.Account{
		1: {Quota: 100, Used: 1}, 99: {Quota: 100, Used: 99}, 100: {Quota: 100, Used: 100}, 101: {Quota: 100, Used: 100, Excess: 1},
		1 << 40: {Quota: 100, Used: 100, Excess: 1<<40 - 100},
	} {
		expectPlay(t, "once", l, g, []api.QuotaEvent{brings(0, n)}, []api.Account{want, other}, 1, api.OK)
	}
	expectPlay(t, "often", l, g, []api.QuotaEvent{brings(0, 60), brings(0, 60), brings(0, 60)}, []api.Account{{Quota: 100, Used: 100, Excess: 80}, other}, 3, api.OK)
	expectPlay(t, "the one and the other", l, g, []api.QuotaEvent{brings(1, 60), brings(0, 60)}, []api.Account{{Quota: 100, Used: 60}, {Grower: 1, Quota: 50, Used: 50, Excess: 10}}, 2, api.OK)
	// What is leased later does not make up for what was too much, but for what comes.
	later := []api.QuotaEvent{brings(1, 60), leases(0, 1, 30), brings(1, 25), brings(1, 25)}
	expectPlay(t, "excess stays", l, g, later[:2], []api.Account{{Quota: 70}, {Grower: 1, Quota: 80, Used: 50, Excess: 10}}, 2, api.OK)
	expectPlay(t, "excess stays", l, g, later, []api.Account{{Quota: 70}, {Grower: 1, Quota: 80, Used: 80, Excess: 30}}, 4, api.OK)
	expectPlay(t, "nothing may be brought", l, api.Glut{Year: 2026, Years: 1, Best: 1}, []api.QuotaEvent{brings(0, 7)}, []api.Account{{Excess: 7}, {Grower: 1}}, 1, api.OK)
}

// P12.3: only what is not used can be leased, also of what was leased.
func TestPlayLeases(t *testing.T) {
	l, g := lastYear(100, 50, 0), api.Glut{Year: 2026, Years: 1, Best: 1, Percent: 1000}
	third := api.Account{Grower: 2}
	expectPlay(t, "all", l, g, []api.QuotaEvent{leases(0, 1, 100)}, []api.Account{{}, {Grower: 1, Quota: 150}, third}, 1, api.OK)
	expectPlay(t, "more", l, g, []api.QuotaEvent{leases(0, 1, 101)}, nil, 0, api.ErrShort)
	used := []api.QuotaEvent{brings(0, 30), leases(0, 1, 70)}
	expectPlay(t, "what is left", l, g, used, []api.Account{{Quota: 30, Used: 30}, {Grower: 1, Quota: 120}, third}, 2, api.OK)
	used[1].Amount++
	expectPlay(t, "more than is left", l, g, used, nil, 1, api.ErrShort)
	expectPlay(t, "nothing left", l, g, []api.QuotaEvent{brings(1, 99), leases(1, 0, 1)}, nil, 1, api.ErrShort)
	on := []api.QuotaEvent{leases(0, 2, 100), leases(2, 1, 99), leases(1, 0, 149)}
	expectPlay(t, "on", l, g, on, []api.Account{{Quota: 149}, {Grower: 1}, {Grower: 2, Quota: 1}}, 3, api.OK)
	expectPlay(t, "on and back", l, g, append(on, leases(0, 2, 149), leases(2, 0, 150)), []api.Account{{Quota: 150}, {Grower: 1}, {Grower: 2}}, 5, api.OK)
	expectPlay(t, "of nothing", l, g, []api.QuotaEvent{leases(2, 0, 1)}, nil, 0, api.ErrShort)
}

// P12.3: the errors of the kinds, each ahead of those that are named behind it.
func TestPlayErrors(t *testing.T) {
	l, g := exampleCrops(), exampleGlut()
	for _, n := range []int{0, 5, 1023} {
		expectPlay(t, "who brings", l, g, []api.QuotaEvent{brings(n, 1)}, nil, 0, api.ErrNone)
		expectPlay(t, "who leases", l, g, []api.QuotaEvent{leases(n, 3, 1)}, nil, 0, api.ErrNone)
		expectPlay(t, "to whom", l, g, []api.QuotaEvent{leases(3, n, 1)}, nil, 0, api.ErrNone)
		expectPlay(t, "both the same", l, g, []api.QuotaEvent{leases(n, n, 1)}, nil, 0, api.ErrNone)
		expectPlay(t, "to whom, and short", l, g, []api.QuotaEvent{leases(3, n, 5000)}, nil, 0, api.ErrNone)
		expectPlay(t, "nobody", nil, g, []api.QuotaEvent{brings(n, 1)}, nil, 0, api.ErrNone)
	}
	expectPlay(t, "twice", l, g, []api.QuotaEvent{leases(3, 3, 1)}, nil, 0, api.ErrTwice)
	expectPlay(t, "twice, and short", l, g, []api.QuotaEvent{leases(3, 3, 5000)}, nil, 0, api.ErrTwice)
	expectPlay(t, "short", l, g, []api.QuotaEvent{leases(3, 8, 1148)}, nil, 0, api.ErrShort)
	expectPlay(t, "the greatest", l, g, []api.QuotaEvent{leases(3, 8, 1147)}, []api.Account{{Grower: 3}, {Grower: 8, Quota: 1572}}, 1, api.OK)
}

// P12.3: the first event with an error ends it, whatever is behind it.
func TestPlayEndsWithTheFirstError(t *testing.T) {
	l, g := exampleCrops(), exampleGlut()
	bad := []struct {
		event api.QuotaEvent
		e     api.Errno
	}{{api.QuotaEvent{Kind: 2}, api.ErrArg}, {brings(5, 1), api.ErrNone}, {leases(3, 3, 1), api.ErrTwice}, {leases(8, 3, 1), api.ErrShort}}
	for _, first := range bad {
		for _, second := range bad {
			events := append(exampleEvents(), first.event, brings(3, 5), second.event)
			expectPlay(t, "two", l, g, events, nil, 4, first.e)
			expectPlay(t, "one", l, g, events[:5], nil, 4, first.e)
		}
	}
	// An error of its kind is met first even if a later event is not valid at all.
	expectPlay(t, "order", l, g, []api.QuotaEvent{brings(5, 1), {Kind: -1}}, nil, 0, api.ErrNone)
}

// P12.3: there may be 256 events.
func TestPlayLong(t *testing.T) {
	l, g := exampleCrops(), exampleGlut()
	events := slices.Repeat([]api.QuotaEvent{brings(3, 1)}, 257)
	expectPlay(t, "256", l, g, events[:256], []api.Account{{Grower: 3, Quota: 1147, Used: 256}, {Grower: 8, Quota: 425}}, 256, api.OK)
	expectPlay(t, "257", l, g, events, nil, 0, api.ErrLong)
	expectPlay(t, "257, of which none is valid", l, g, make([]api.QuotaEvent, 257), nil, 0, api.ErrLong)
	events[255] = leases(8, 3, 426)
	expectPlay(t, "the last one", l, g, events[:256], nil, 255, api.ErrShort)
}

// P12.3, R5: the greatest numbers are exact.
func TestPlayAtLimits(t *testing.T) {
	most := 1 << 40
	l, g := lastYear(slices.Repeat([]int{most}, 256)...), api.Glut{Year: 2026, Years: 1, Best: 1, Percent: 1000}
	var events []api.QuotaEvent
	want := []api.Account{{Quota: 256 * most}}
	for grower := 1; grower < 256; grower++ {
		events = append(events, leases(grower, 0, most))
		want = append(want, api.Account{Grower: grower})
	}
	expectPlay(t, "all to one", l, g, events, want, 255, api.OK)
	want[0].Used = most
	expectPlay(t, "all to one", l, g, append(events, brings(0, most)), want, 256, api.OK)
	expectPlay(t, "excess", lastYear(1), g, slices.Repeat([]api.QuotaEvent{brings(0, most)}, 256), []api.Account{{Quota: 1, Used: 1, Excess: 256*most - 1}}, 256, api.OK)
}

// P12.3: as by going through the accounts.
func TestPlayIsJudge(t *testing.T) {
	played, excess := map[api.Errno]int{}, 0
	each(200, func(seed uint64, r world) {
		l, g := r.someCrops(), r.someGlut()
		events := r.someEvents(l, g)
		if r.IntN(2) == 0 && len(events) > 0 {
			v := &events[r.IntN(len(events))]
			*[]*int{&v.Kind, &v.Grower, &v.To, &v.Amount}[r.IntN(4)] = []int{1, 1024, r.IntN(r.growers), 1 << 40}[r.IntN(4)]
			if r.IntN(4) == 0 {
				v.Kind, v.To = api.Lease, v.Grower
			}
		}
		want, index, e := judgePlay(l, g, events)
		expectPlay(t, "judge", l, g, events, want, index, e)
		played[e]++
		for _, a := range want {
			if a.Excess > 0 {
				excess++
			}
		}
		if t.Failed() {
			t.Fatal(seed)
		}
	})
	for _, e := range []api.Errno{api.OK, api.ErrArg, api.ErrNone, api.ErrShort, api.ErrTwice} {
		if played[e] < 5 {
			t.Error("too few", played)
		}
	}
	if excess < 100 {
		t.Error("too few", excess)
	}
}

// P12.6, P10: quotas that are leased are all the quotas that there were; nobody uses more than the quota; what is used and what is excess is what was brought.
func TestQuotasKeepTheirLaw(t *testing.T) {
	leased, excess := 0, 0
	each(200, func(seed uint64, r world) {
		l, g := r.someCrops(), r.someGlut()
		events := r.someEvents(l, g)
		accounts, n, e := quota.Play(l, g, events)
		if e != api.OK {
			events = events[:n]
			accounts, n, e = quota.Play(l, g, events)
		}
		brought := map[int]int{}
		for _, v := range events {
			if v.Kind == api.Bring {
				brought[v.Grower] += v.Amount
			} else {
				leased++
			}
		}
		quotas, _ := quota.Quotas(l, g)
		all := sum(quotas)
		for i, a := range accounts {
			all -= a.Quota
			if a.Grower != quotas[i].Grower || a.Used > a.Quota || a.Used+a.Excess != brought[a.Grower] || min(a.Used, a.Excess) < 0 {
				t.Fatal(seed, l, g, events, a)
			}
			if a.Excess > 0 {
				excess++
			}
		}
		if e != api.OK || n != len(events) || len(accounts) != len(quotas) || all != 0 {
			t.Fatal(seed, l, g, events, accounts, n, e)
		}
	})
	if leased < 500 || excess < 100 {
		t.Error("too few", leased, excess)
	}
}
