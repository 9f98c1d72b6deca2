package quota_test

import (
	"math"
	"math/big"
	"math/rand/v2"
	"slices"
	"testing"

	"fenberry/api"
	"fenberry/quota"
)

// exampleCrops returns the crops of the chapter's examples.
func exampleCrops() []api.Crop {
	return []api.Crop{
		{Grower: 3, Year: 2022, Amount: 1000}, {Grower: 3, Year: 2023, Amount: 1400}, {Grower: 3, Year: 2024, Amount: 900}, {Grower: 3, Year: 2025, Amount: 1301},
		{Grower: 8, Year: 2024, Amount: 500}, {Grower: 8, Year: 2021, Amount: 9999},
		{Grower: 5, Year: 2020, Amount: 700},
	}
}

// exampleGlut returns the glut of the chapter's examples.
func exampleGlut() api.Glut { return api.Glut{Year: 2026, Years: 4, Best: 2, Percent: 850} }

// exampleEvents returns the events of the chapter's examples.
func exampleEvents() []api.QuotaEvent {
	return []api.QuotaEvent{brings(3, 1000), leases(8, 3, 100), brings(3, 300), brings(8, 400)}
}

func brings(grower, amount int) api.QuotaEvent {
	return api.QuotaEvent{Kind: api.Bring, Grower: grower, Amount: amount}
}

func leases(grower, to, amount int) api.QuotaEvent {
	return api.QuotaEvent{Kind: api.Lease, Grower: grower, To: to, Amount: amount}
}

// lastYear returns a crop in 2025 for each amount, of the growers 0, 1 and so on.
func lastYear(amounts ...int) []api.Crop {
	var l []api.Crop
	for grower, n := range amounts {
		l = append(l, api.Crop{Grower: grower, Year: 2025, Amount: n})
	}
	return l
}

// years returns the crops of one grower up to 2025, the last one in 2025.
func years(grower int, amounts ...int) []api.Crop {
	var l []api.Crop
	for i, n := range amounts {
		l = append(l, api.Crop{Grower: grower, Year: 2026 - len(amounts) + i, Amount: n})
	}
	return l
}

// strangeNumbers are beyond limits, or at them.
func strangeNumbers() []int {
	return []int{math.MinInt, math.MinInt + 1, -2, -1, 0, 1, 2, 3, 10, 11, 1000, 1001, 1023, 1024, 9999, 10000, 1 << 20, 1<<20 + 1, 1 << 40, 1<<40 + 1, math.MaxInt - 1, math.MaxInt}
}

func expectQuotas(t *testing.T, name string, l []api.Crop, g api.Glut, want []api.Quota, wantError api.Errno) {
	t.Helper()
	if q, e := quota.Quotas(l, g); !slices.Equal(q, want) || e != wantError {
		t.Error(name, l, g, q, e, "instead of", want, wantError)
	}
}

func expectPercent(t *testing.T, name string, l []api.Crop, g api.Glut, demand, want int, wantError api.Errno) {
	t.Helper()
	if n, e := quota.Percent(l, g, demand); n != want || e != wantError {
		t.Error(name, l, g, demand, n, e, "instead of", want, wantError)
	}
}

func expectPlay(t *testing.T, name string, l []api.Crop, g api.Glut, events []api.QuotaEvent, want []api.Account, wantIndex int, wantError api.Errno) {
	t.Helper()
	if a, index, e := quota.Play(l, g, events); !slices.Equal(a, want) || index != wantIndex || e != wantError {
		t.Error(name, l, g, events, a, index, e, "instead of", want, wantIndex, wantError)
	}
}

func expectShares(t *testing.T, name string, l []api.Crop, g api.Glut, total int, want []api.Quota, wantError api.Errno) {
	t.Helper()
	if q, e := quota.Shares(l, g, total); !slices.Equal(q, want) || e != wantError {
		t.Error(name, l, g, total, q, e, "instead of", want, wantError)
	}
}

// judgeBases asks all growers that there can be for the crops that count, and takes the greatest one that is left, again and again.
func judgeBases(l []api.Crop, g api.Glut) []api.Quota {
	var bases []api.Quota
	for grower := range 1024 {
		var amounts []int
		for _, c := range l {
			for back := 1; c.Grower == grower && back <= g.Years; back++ {
				if c.Year == g.Year-back {
					amounts = append(amounts, c.Amount)
				}
			}
		}
		if len(amounts) == 0 {
			continue
		}
		all, many := new(big.Int), int64(0)
		for ; many < int64(g.Best) && len(amounts) > 0; many++ {
			i := slices.Index(amounts, slices.Max(amounts))
			all.Add(all, big.NewInt(int64(amounts[i])))
			amounts = slices.Delete(amounts, i, i+1)
		}
		bases = append(bases, api.Quota{Grower: grower, Base: int(all.Div(all, big.NewInt(many)).Int64())})
	}
	return bases
}

// part returns all times a of b, rounded down, and what is cut off, of b, with numbers of any size.
func part(all, a, b int) (n, rest int) {
	product := new(big.Int).Mul(big.NewInt(int64(all)), big.NewInt(int64(a)))
	quotient, modulus := new(big.Int).DivMod(product, big.NewInt(int64(b)), new(big.Int))
	return int(quotient.Int64()), int(modulus.Int64())
}

func judgeQuotas(l []api.Crop, g api.Glut) []api.Quota {
	bases := judgeBases(l, g)
	for i := range bases {
		bases[i].Amount, _ = part(bases[i].Base, g.Percent, 1000)
	}
	return bases
}

// judgePercent goes down from all of it.
func judgePercent(l []api.Crop, g api.Glut, demand int) int {
	bases := judgeBases(l, g)
	for percent := 1000; ; percent-- {
		all := 0
		for _, b := range bases {
			n, _ := part(b.Base, percent, 1000)
			all += n
		}
		if all <= demand {
			return percent
		}
	}
}

// judgePlay looks through all accounts for the growers of an event.
func judgePlay(l []api.Crop, g api.Glut, events []api.QuotaEvent) ([]api.Account, int, api.Errno) {
	var accounts []api.Account
	for _, q := range judgeQuotas(l, g) {
		accounts = append(accounts, api.Account{Grower: q.Grower, Quota: q.Amount})
	}
	of := func(grower int) int {
		return slices.IndexFunc(accounts, func(a api.Account) bool { return a.Grower == grower })
	}
	for i, v := range events {
		a, b := of(v.Grower), of(v.To)
		lease := v.Kind == 1
		switch {
		case v.Kind < 0 || v.Kind > 1 || v.Grower < 0 || v.Grower > 1023 || lease && (v.To < 0 || v.To > 1023) || v.Amount < 1 || v.Amount > 1<<40:
			return nil, i, api.ErrArg
		case a < 0 || lease && b < 0:
			return nil, i, api.ErrNone
		case lease && a == b:
			return nil, i, api.ErrTwice
		case lease && accounts[a].Quota-accounts[a].Used < v.Amount:
			return nil, i, api.ErrShort
		case lease:
			accounts[a].Quota -= v.Amount
			accounts[b].Quota += v.Amount
		default:
			all := accounts[a].Used + v.Amount
			accounts[a].Used = min(all, accounts[a].Quota)
			accounts[a].Excess += all - accounts[a].Used
		}
	}
	return accounts, len(events), api.OK
}

// judgeShares gives what is missing to one grower after the other.
func judgeShares(l []api.Crop, g api.Glut, total int) ([]api.Quota, api.Errno) {
	bases := judgeBases(l, g)
	all := 0
	for _, b := range bases {
		all += b.Base
	}
	if all == 0 {
		return nil, api.ErrNone
	}
	rests := make([]int, len(bases))
	missing := total
	for i := range bases {
		bases[i].Amount, rests[i] = part(total, bases[i].Base, all)
		missing -= bases[i].Amount
	}
	for range missing {
		i := slices.Index(rests, slices.Max(rests))
		bases[i].Amount++
		rests[i] = -1
	}
	return bases, api.OK
}

func sum(l []api.Quota) int {
	n := 0
	for _, q := range l {
		n += q.Amount
	}
	return n
}

// sizes bounds what is made: growers, crops, the last year, the grams in each crop, and events.
type sizes struct{ growers, crops, year, amount, events int }

// few has so small numbers that many things are the same.
func few() sizes { return sizes{growers: 4, crops: 12, year: 6, amount: 12, events: 20} }

// plain has numbers as they are in years of glut.
func plain() sizes {
	return sizes{growers: 20, crops: 100, year: 12, amount: 1 << 26, events: 60}
}

// great has numbers up to the limits.
func great() sizes {
	return sizes{growers: 1024, crops: 256, year: 9999, amount: 1 << 40, events: 256}
}

// world makes valid crops, gluts and events; the same ones for the same seed.
type world struct {
	*rand.Rand
	sizes
}

func newWorld(seed uint64, s sizes) world { return world{rand.New(rand.NewPCG(seed, 59)), s} }

func (r world) between(lo, hi int) int { return lo + r.IntN(hi-lo+1) }

// upTo returns a number from 0 to most, of which some are at the ends.
func (r world) upTo(most int) int {
	switch r.IntN(8) {
	case 0:
		return 0
	case 1:
		return most
	}
	return r.between(0, most)
}

func (r world) someGlut() api.Glut {
	g := api.Glut{Year: r.between(max(0, r.year-5), r.year), Years: r.between(1, 10), Percent: r.upTo(1000)}
	g.Best = r.between(1, g.Years)
	return g
}

// someCrops returns crops of which most are in the last years.
func (r world) someCrops() []api.Crop {
	var l []api.Crop
	seen := map[[2]int]bool{}
	for range r.upTo(r.crops) {
		c := api.Crop{Grower: r.IntN(r.growers), Year: r.between(max(0, r.year-12), r.year), Amount: r.upTo(r.amount)}
		if key := [2]int{c.Grower, c.Year}; !seen[key] {
			seen[key] = true
			l = append(l, c)
		}
	}
	return l
}

// someEvents returns events of which most can be, up to the first that cannot.
func (r world) someEvents(l []api.Crop, g api.Glut) []api.QuotaEvent {
	quotas := judgeQuotas(l, g)
	if len(quotas) == 0 {
		return nil
	}
	var events []api.QuotaEvent
	for range r.upTo(r.events) {
		q, to := quotas[r.IntN(len(quotas))], quotas[r.IntN(len(quotas))]
		v := brings(q.Grower, r.between(1, max(1, q.Amount/2)))
		if r.IntN(3) == 0 && q != to {
			v = leases(q.Grower, to.Grower, r.between(1, max(1, q.Amount/20)))
		}
		events = append(events, v)
	}
	if _, n, e := judgePlay(l, g, events); e != api.OK {
		return events[:min(len(events), n+r.IntN(2))]
	}
	return events
}

// someDemand returns a demand, often one that is about the bases.
func (r world) someDemand(l []api.Crop, g api.Glut) int {
	all := 0
	for _, b := range judgeBases(l, g) {
		all += b.Base
	}
	if r.IntN(2) == 0 {
		return r.between(0, min(all, api.MaxAmount))
	}
	return r.upTo(api.MaxAmount)
}

// each calls do with so many worlds of each size.
func each(n int, do func(seed uint64, r world)) {
	for seed := range uint64(n) {
		for _, s := range []sizes{few(), plain(), great()} {
			do(seed, newWorld(seed, s))
		}
	}
}

func eachWorld(do func(seed uint64, r world)) { each(100, do) }
