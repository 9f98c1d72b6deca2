package quota

import (
	"maps"
	"slices"

	"fenberry/api"
)

// book keeps the accounts of all growers who count, by grower.
type book map[int]*api.Account

// open opens an account for each quota.
func open(l []api.Quota) book {
	b := book{}
	for _, q := range l {
		b[q.Grower] = &api.Account{Grower: q.Grower, Quota: q.Amount}
	}
	return b
}

// accounts returns all accounts, by rising grower.
func (b book) accounts() []api.Account {
	var l []api.Account
	for _, grower := range slices.Sorted(maps.Keys(b)) {
		l = append(l, *b[grower])
	}
	return l
}

// play plays events, and returns how many there are; otherwise the index of the first one that cannot be, and its error.
func (b book) play(events []api.QuotaEvent) (index int, e api.Errno) {
	defer func() {
		if cannotBe, ok := recover().(api.Errno); ok {
			e = cannotBe
		}
	}()
	for _, v := range events {
		b.happen(v)
		index++
	}
	return index, api.OK
}

// happen panics with the event's error if it cannot be.
func (b book) happen(v api.QuotaEvent) {
	if isBadEvent(v) {
		panic(api.ErrArg)
	}
	kinds := [...]func(v api.QuotaEvent){api.Bring: b.bring, api.Lease: b.lease}
	kinds[v.Kind](v)
}

func (b book) bring(v api.QuotaEvent) {
	a := b.of(v.Grower)
	used := min(v.Amount, left(a))
	a.Used += used
	a.Excess += v.Amount - used
}

func (b book) lease(v api.QuotaEvent) {
	from, to := b.of(v.Grower), b.of(v.To)
	if from == to {
		panic(api.ErrTwice)
	}
	if left(from) < v.Amount {
		panic(api.ErrShort)
	}
	from.Quota -= v.Amount
	to.Quota += v.Amount
}

// of returns the account of a grower; it panics with ErrNone if the grower does not count.
func (b book) of(grower int) *api.Account {
	a, counts := b[grower]
	if !counts {
		panic(api.ErrNone)
	}
	return a
}

// left returns how much of the quota is not used.
func left(a *api.Account) int { return a.Quota - a.Used }
