package permit_test

import (
	"math"
	"testing"

	"fenberry/api"
	"fenberry/permit"
)

// arguments is what all functions are called with.
type arguments struct {
	l                []api.Discharge
	days, limit, day int
	a, b             api.Flow
	warm             api.Span
	warmest          int
	waiting          waiting
	x                api.Phosphorus
}

// examples returns the arguments of the chapter's examples.
func examples() arguments {
	return arguments{
		l: exampleDischarges(), days: 3, limit: 100000, day: 20,
		a: exampleRiver(), b: exampleFlow(), warm: exact(20000), warmest: 13000,
		waiting: exampleWaiting(), x: examplePhosphorus(),
	}
}

// callAll calls all functions, and returns their errors; it checks that there are no results with an error.
func callAll(t *testing.T, c arguments) [6]api.Errno {
	t.Helper()
	surely, perhaps, e0 := permit.Passed(c.l, c.days, c.limit)
	n, e1 := permit.Allow(c.l, c.days, c.limit, c.day)
	s, e2 := permit.Mix(c.a, c.b)
	most, e3 := permit.Most(c.a, c.warm, c.warmest)
	plan, e4 := c.waiting.schedule()
	left, berries, e5 := permit.Balance(c.x)
	errors := [6]api.Errno{e0, e1, e2, e3, e4, e5}
	for i, zero := range [6]bool{surely == 0 && perhaps == 0, n == 0, s == api.Span{}, most == 0, len(plan) == 0, left == api.Span{} && berries == api.Span{}} {
		if errors[i] != api.OK && !zero {
			t.Error("a result with an error", c, i, errors[i])
		}
	}
	return errors
}

// badNumbers are numbers for other arguments; some of them are beyond their ranges.
func badNumbers() []int { return []int{3, -1, 1<<56 + 1, math.MinInt, math.MaxInt} }

// takesDischarges checks that the functions take discharges, or that they return ErrArg, also if their other arguments are not valid.
func takesDischarges(t *testing.T, name string, valid bool, l []api.Discharge) {
	t.Helper()
	for _, n := range badNumbers() {
		_, _, e1 := permit.Passed(l, n, n)
		_, e2 := permit.Allow(l, n, n, n)
		_, e3 := permit.Allow(l, 3, 0, n)
		_, _, e4 := permit.Passed(l, 3, n)
		for i, e := range []api.Errno{e1, e2, e3, e4} {
			if valid == (e == api.ErrArg) {
				t.Error(name, l, n, i, e)
			}
		}
	}
}

// span2 is a span that is given by its ends, of which the greatest there may be is most.
type span2 struct {
	most  int
	field func(c *arguments) *api.Span
}

// eachSpan calls check with all that a span can be: whether it is valid, and with what.
func (s span2) eachSpan(check func(valid bool, c arguments)) {
	near := append(strangeNumbers(), s.most-1, s.most, s.most+1)
	for _, lo := range near {
		for _, hi := range near {
			c := examples()
			*s.field(&c) = span(lo, hi)
			check(0 <= lo && lo <= hi && hi <= s.most, c)
		}
	}
}

// P13.1, P13.2: which discharges are valid, wherever they are.
func TestValidDischarges(t *testing.T) {
	for i := range 3 {
		for _, s := range []span2{
			{1 << 30, func(c *arguments) *api.Span { return &c.l[i].Water }},
			{100000, func(c *arguments) *api.Span { return &c.l[i].Content }},
		} {
			s.eachSpan(func(valid bool, c arguments) { takesDischarges(t, "span", valid, c.l) })
		}
		for _, n := range strangeNumbers() {
			l := exampleDischarges()
			l[i].Day = n
			takesDischarges(t, "day", n >= 0 && n <= 1<<14, l)
		}
	}
	takesDischarges(t, "nothing", true, nil)
	takesDischarges(t, "nothing", true, []api.Discharge{})
}

// P13.1, P13.2: there may be 64 discharges.
func TestManyDischarges(t *testing.T) {
	for n, valid := range map[int]bool{0: true, 1: true, 63: true, 64: true, 65: false, 1000: false} {
		takesDischarges(t, "many", valid, make([]api.Discharge, n))
	}
	l := make([]api.Discharge, 64)
	l[63].Day = -1
	takesDischarges(t, "the last one", false, l)
}

// P13.3, P13.4: which flows are valid.
func TestValidFlows(t *testing.T) {
	for _, s := range []span2{
		{1 << 30, func(c *arguments) *api.Span { return &c.a.Water }},
		{40000, func(c *arguments) *api.Span { return &c.a.Warm }},
	} {
		s.eachSpan(func(valid bool, c arguments) {
			_, e1 := permit.Mix(c.a, c.b)
			_, e2 := permit.Mix(c.b, c.a)
			_, e3 := permit.Most(c.a, exact(5), 40000)
			_, e4 := permit.Most(c.a, exact(5), -1)
			_, e5 := permit.Mix(c.a, api.Flow{})
			_, e6 := permit.Most(c.a, exact(5), 0)
			for i, e := range []api.Errno{e1, e2, e3, e4, e5, e6} {
				if valid == (e == api.ErrArg) {
					t.Error(c.a, i, e)
				}
			}
			// That there may be no water at all does not matter then.
			if _, e := permit.Mix(api.Flow{}, c.a); !valid && e != api.ErrArg {
				t.Error(c.a, e)
			}
		})
	}
}

// P13.5: which nests are valid, also in reaches that are not asked for.
func TestValidNests(t *testing.T) {
	takes := func(name string, valid bool, nests ...api.Nest) {
		t.Helper()
		for _, n := range badNumbers() {
			w := exampleWaiting()
			w.nests = append(w.nests, nests...)
			if _, e := w.schedule(); valid == (e == api.ErrArg) {
				t.Error(name, nests, e)
			}
			w.loads, w.reach, w.days, w.limit, w.from, w.to = []int{n}, n, n, n, n, n
			if _, e := w.schedule(); valid == (e == api.ErrArg) {
				t.Error(name, nests, n, e)
			}
			w.loads = make([]int, 65)
			expectSchedule(t, name, w, nil, api.ErrLong)
		}
	}
	for _, n := range strangeNumbers() {
		takes("reach", n >= 0 && n <= 63, api.Nest{Reach: n, From: 1, To: 2})
		for _, to := range strangeNumbers() {
			takes("days", 0 <= n && n <= to && to <= 1<<14, api.Nest{Reach: 5, From: n, To: to})
		}
	}
	for n, valid := range map[int]bool{0: true, 30: true, 31: true, 32: false, 1000: false} {
		takes("many", valid, make([]api.Nest, n)...)
	}
	takes("the last one", false, append(make([]api.Nest, 30), api.Nest{From: 1})...)
}

// P13.6: which phosphorus is valid.
func TestValidPhosphorus(t *testing.T) {
	for _, s := range []span2{
		{1 << 40, func(c *arguments) *api.Span { return &c.x.Before }},
		{1 << 40, func(c *arguments) *api.Span { return &c.x.In }},
		{1 << 40, func(c *arguments) *api.Span { return &c.x.Out }},
		{1 << 30, func(c *arguments) *api.Span { return &c.x.Berries }},
		{1000, func(c *arguments) *api.Span { return &c.x.Content }},
	} {
		s.eachSpan(func(valid bool, c arguments) {
			_, _, e := permit.Balance(c.x)
			if valid == (e == api.ErrArg) || valid && e != api.OK && e != api.ErrNone {
				t.Error(c.x, e)
			}
		})
	}
	// That more left than there was does not matter then.
	x := api.Phosphorus{Out: exact(9)}
	expectBalance(t, "none", x, api.Span{}, api.Span{}, api.ErrNone)
	x.Content = span(2, 1)
	expectBalance(t, "ahead of none", x, api.Span{}, api.Span{}, api.ErrArg)
}

// numbers returns all numbers of some arguments.
func (c *arguments) numbers() []*int {
	l := []*int{&c.days, &c.limit, &c.day, &c.warmest, &c.waiting.reach, &c.waiting.days, &c.waiting.limit, &c.waiting.from, &c.waiting.to}
	for _, s := range []*api.Span{&c.a.Water, &c.a.Warm, &c.b.Water, &c.b.Warm, &c.warm, &c.x.Before, &c.x.In, &c.x.Out, &c.x.Berries, &c.x.Content} {
		l = append(l, &s.Lo, &s.Hi)
	}
	for i := range c.l {
		d := &c.l[i]
		l = append(l, &d.Day, &d.Water.Lo, &d.Water.Hi, &d.Content.Lo, &d.Content.Hi)
	}
	for i := range c.waiting.loads {
		l = append(l, &c.waiting.loads[i])
	}
	for i := range c.waiting.nests {
		n := &c.waiting.nests[i]
		l = append(l, &n.Reach, &n.From, &n.To)
	}
	return l
}

// P1, R2: no function panics, and none gives a result with an error.
func TestStrangeArguments(t *testing.T) {
	errors := map[api.Errno]int{}
	for seed := range uint64(5000) {
		r := newWorld(seed, plain())
		c := examples()
		if r.IntN(2) == 0 {
			c.l, c.waiting, c.a, c.x = r.someDischarges(), r.someWaiting(), r.someFlow(), r.somePhosphorus()
		}
		numbers := c.numbers()
		for range r.IntN(8) {
			*numbers[r.IntN(len(numbers))] = strangeNumbers()[r.IntN(len(strangeNumbers()))]
		}
		for _, e := range callAll(t, c) {
			errors[e]++
		}
	}
	for _, e := range []api.Errno{api.OK, api.ErrArg, api.ErrRange, api.ErrNone, api.ErrLimit} {
		if errors[e] < 50 {
			t.Error("too few", errors)
		}
	}
}
