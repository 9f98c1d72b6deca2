package chain_test

import (
	"slices"
	"testing"

	"fenberry/api"
	"fenberry/chain"
)

// P1.4: the chapter's examples, and which hour and pond are the first ones.
func TestLowExamples(t *testing.T) {
	c, w, h := example()
	set := h
	set.Boards = []api.Board{{Boards: 16}}
	two := []api.Hour{h, h}
	for _, x := range []struct {
		l          []api.Hour
		least      []int
		hour, pond int
		e          api.Errno
	}{
		{two, []int{0, 0}, 0, 0, api.ErrNone},
		{two, []int{400, 50}, 1, 0, api.OK},
		{two, []int{445, 50}, 1, 0, api.OK},
		{two, []int{445, 51}, 0, 1, api.OK},
		{two, []int{446, 51}, 0, 0, api.OK},
		{two, []int{297, 0}, 0, 0, api.ErrNone},
		{two, []int{298, 0}, 1, 0, api.OK},
		{two, []int{297, 1}, 1, 1, api.OK},
		{[]api.Hour{set, h}, []int{588, 0}, 0, 0, api.ErrNone}, // boards stay
		{[]api.Hour{set, h}, []int{589, 0}, 1, 0, api.OK},
		{nil, []int{1000, 500}, 0, 0, api.ErrNone}, // behind no hour
	} {
		if hour, pond, e := chain.Low(c, w, x.l, x.least); hour != x.hour || pond != x.pond || e != x.e {
			t.Error(x.least, hour, pond, e)
		}
	}
}

// firstLow finds with Pass what Low finds.
func firstLow(c api.Chain, w []api.Span, l []api.Hour, least []int) (hour, pond int, e api.Errno) {
	for i := range l {
		end, _, _ := passAll(c, w, l[:i+1])
		for j, s := range end {
			if s.Lo < least[j] {
				return i, j, api.OK
			}
		}
	}
	return 0, 0, api.ErrNone
}

// P1.4
func TestLowIsPass(t *testing.T) {
	found := 0
	for seed := range uint64(500) {
		r := newWorld(seed, many)
		c := r.chain()
		w, l := r.water(c), r.hours(c, 8)
		var least []int
		for _, p := range c.Ponds {
			least = append(least, r.IntN(p.Full+1)/(1+r.IntN(20)))
		}
		hour, pond, e := chain.Low(c, w, l, least)
		hour2, pond2, e2 := firstLow(c, w, l, least)
		if hour != hour2 || pond != pond2 || e != e2 {
			t.Fatal(seed, hour, pond, e, hour2, pond2, e2)
		}
		if e == api.OK && hour > 0 {
			found++
		}
	}
	if found < 20 {
		t.Error("too few", found)
	}
}

// P1.5: the chapter's example, and amounts by hand.
func TestMostExamples(t *testing.T) {
	c, w, h := example()
	one20 := roomy(1)
	dry := api.Hour{Comes: exactly(0)}
	rain := api.Hour{Comes: []api.Span{span(5, 50)}}
	take := func(n int) api.Hour { return api.Hour{Comes: exactly(0), Takes: []api.Take{{Amount: n}}} }
	leaky := api.Chain{Ponds: []api.Pond{{Full: 1000, Seep: span(0, 500_000), Spill: river}}}
	for _, x := range []struct {
		name  string
		c     api.Chain
		w     []api.Span
		l     []api.Hour
		least []int
		pond  int
		n     int
		e     api.Errno
	}{
		{"example", c, w, []api.Hour{h}, []int{0, 0}, 0, 450, api.OK},
		{"behind the other takes", c, w, []api.Hour{h}, []int{0, 0}, 1, 50, api.OK},
		{"a number that has to be left", c, w, []api.Hour{h}, []int{99, 0}, 0, 350, api.OK},
		{"just enough", c, w, []api.Hour{h}, []int{0, 50}, 1, 0, api.OK},
		{"Low finds a pond", c, w, []api.Hour{h}, []int{0, 51}, 0, 0, api.ErrNone},
		{"a take may be short", c, w, []api.Hour{h, h}, []int{0, 0}, 0, 0, api.ErrNone},
		{"no hours", c, w, nil, []int{1000, 500}, 0, api.MaxWater, api.OK},
		{"one hour", one20, []api.Span{span(20, 90)}, []api.Hour{dry}, []int{0}, 0, 20, api.OK},
		{"each hour", one20, []api.Span{span(20, 90)}, []api.Hour{dry, dry, dry}, []int{0}, 0, 6, api.OK},
		{"what surely comes", one20, []api.Span{span(20, 90)}, []api.Hour{rain, dry}, []int{0}, 0, 12, api.OK},
		{"what comes too late", one20, []api.Span{span(3, 90)}, []api.Hour{dry, rain}, []int{0}, 0, 3, api.OK},
		{"a later take has to get all", one20, exactly(20), []api.Hour{dry, take(15)}, []int{0}, 0, 2, api.OK},
		{"a later take gets just all", one20, exactly(20), []api.Hour{dry, take(20)}, []int{0}, 0, 0, api.OK},
		{"a later take gets not all", one20, exactly(20), []api.Hour{dry, take(21)}, []int{0}, 0, 0, api.ErrNone},
		{"a number behind seeping", leaky, exactly(100), []api.Hour{dry}, []int{30}, 0, 40, api.OK},
		{"all ahead of seeping", leaky, exactly(100), []api.Hour{dry}, []int{0}, 0, 100, api.OK},
		{"the greatest", one20, exactly(api.MaxWater), []api.Hour{{Comes: exactly(api.MaxWater)}}, []int{0}, 0, api.MaxWater, api.OK},
		{"just the greatest", one20, exactly(0), []api.Hour{{Comes: exactly(api.MaxWater)}}, []int{0}, 0, api.MaxWater, api.OK},
		{"one less than the greatest", one20, exactly(0), []api.Hour{{Comes: exactly(api.MaxWater)}}, []int{1}, 0, api.MaxWater - 1, api.OK},
	} {
		if n, e := chain.Most(x.c, x.w, x.l, x.least, x.pond); n != x.n || e != x.e {
			t.Error(x.name, n, e)
		}
	}
}

// P1.5: there may be 32 takes already.
func TestMostBehindAllTakes(t *testing.T) {
	h := api.Hour{Comes: exactly(0), Takes: slices.Repeat([]api.Take{{Amount: 3}}, 32)}
	if n, e := chain.Most(roomy(1), exactly(100), []api.Hour{h}, []int{0}, 0); n != 4 || e != api.OK {
		t.Error(n, e)
	}
}

// P1.5: more taken out of one pond can be too little for another one's number, or take.
func TestMostOfAnotherPond(t *testing.T) {
	c := api.Chain{Ponds: roomy(2).Ponds, Gates: []api.Gate{{From: 0, To: 1, Sill: 10, Most: 1000}}}
	dry := api.Hour{Comes: exactly(0, 0)}
	rain := api.Hour{Comes: exactly(30, 0)}
	take := func(h api.Hour, n int) api.Hour {
		return api.Hour{Comes: h.Comes, Takes: []api.Take{{Pond: 1, Amount: n}}}
	}
	for i, x := range []struct {
		l     []api.Hour
		least []int
		n     int
		e     api.Errno
	}{
		{[]api.Hour{dry}, []int{0, 0}, 10, api.OK},
		{[]api.Hour{dry, rain, take(dry, 40)}, []int{0, 55}, 5, api.OK},
		{[]api.Hour{dry, rain, take(dry, 40)}, []int{0, 60}, 0, api.OK},
		{[]api.Hour{dry, rain, take(dry, 40)}, []int{0, 61}, 0, api.ErrNone},
		{[]api.Hour{dry, take(rain, 97)}, []int{0, 0}, 3, api.OK},
		{[]api.Hour{dry, take(rain, 100)}, []int{0, 0}, 0, api.OK},
		{[]api.Hour{dry, take(rain, 101)}, []int{0, 0}, 0, api.ErrNone},
	} {
		if n, e := chain.Most(c, exactly(30, 50), x.l, x.least, 0); n != x.n || e != x.e {
			t.Error(i, n, e)
		}
	}
}

// suffices finds with Low and Run whether all takes, with one more in each hour, get all, and Low finds none.
func suffices(c api.Chain, w []api.Span, l []api.Hour, least []int, pond, amount int) bool {
	l = cloneHours(l)
	wanted := 0
	for i := range l {
		l[i].Takes = append(l[i].Takes, api.Take{Pond: pond, Amount: amount})
		for _, x := range l[i].Takes {
			wanted += x.Amount
		}
	}
	_, _, e1 := chain.Low(c, w, l, least)
	_, f, e2 := chain.Run(c, w, l)
	return e1 == api.ErrNone && e2 == api.OK && f.Taken.Lo == wanted
}

// P1.5, P1.10: with what Most returns all takes get all, and with one litre more not.
func TestMostIsMost(t *testing.T) {
	s := many
	s.takes, s.width = 2, 50
	some, none := 0, 0
	for seed := range uint64(600) {
		r := newWorld(seed, s)
		c := r.chain()
		w, l := r.water(c), r.hours(c, 1+r.IntN(5))
		for _, h := range l {
			for i := range h.Takes {
				h.Takes[i].Amount /= 1 + r.IntN(10)
			}
		}
		least := make([]int, len(c.Ponds))
		if r.IntN(2) == 0 {
			least[r.IntN(len(least))] = r.IntN(10)
		}
		for i, p := range c.Ponds {
			least[i] = min(least[i], p.Full)
		}
		pond := r.IntN(len(c.Ponds))
		n, e := chain.Most(c, w, l, least, pond)
		switch {
		case e == api.ErrNone && n == 0:
			none++
			if suffices(c, w, l, least, pond, 0) {
				t.Fatal(seed, "there is some")
			}
		case e == api.OK:
			some++
			if !suffices(c, w, l, least, pond, n) || n < api.MaxWater && suffices(c, w, l, least, pond, n+1) {
				t.Fatal(seed, n)
			}
		default:
			t.Fatal(seed, n, e)
		}
	}
	if some < 50 || none < 50 {
		t.Error("too few", some, none)
	}
}

// P1.6: the chapter's examples; an hour may leave just as much; only the least water counts.
func TestSteadyExamples(t *testing.T) {
	c, w, h := example()
	calm := api.Hour{Boards: []api.Board{{Boards: 16}}, Comes: []api.Span{span(10, 50), one(0)}}
	open := api.Hour{Comes: calm.Comes}
	short := api.Hour{Boards: calm.Boards, Comes: []api.Span{span(5, 50), one(0)}}
	just := api.Hour{Boards: calm.Boards, Comes: []api.Span{span(6, 6), one(0)}}
	leaks := api.Hour{Boards: calm.Boards, Comes: []api.Span{span(7, 50), one(0)}}
	drains := calm
	drains.Takes = []api.Take{{Pond: 1, Amount: 1}}
	for _, x := range []struct {
		name string
		w    []api.Span
		h    api.Hour
		is   bool
	}{
		{"example", w, h, false},
		{"example with boards", w, calm, true},
		{"boards as they are", w, open, false},
		{"too little comes", w, short, false},
		{"just too little comes", w, just, false},
		{"just enough comes", w, leaks, true},
		{"the second pond has less", w, drains, false},
		{"only the greatest water is less", []api.Span{span(0, 1000), span(0, 500)}, drains, true},
		{"nothing happens", []api.Span{span(0, 700), one(5)}, api.Hour{Comes: exactly(0, 0)}, true},
	} {
		if is, e := chain.Steady(c, x.w, x.h); is != x.is || e != api.OK {
			t.Error(x.name, is, e)
		}
	}
}

// P1.6, P1.9: what is steady never has less, however often the hour is repeated.
func TestSteadyForEver(t *testing.T) {
	s := many
	s.ponds, s.gates, s.takes = 3, 3, 2
	steady := 0
	for seed := range uint64(1500) {
		r := newWorld(seed, s)
		c := r.chain()
		w, h := r.water(c), r.hour(c)
		for i := range w {
			w[i] = span(w[i].Lo/(1+r.IntN(9)), w[i].Hi)
		}
		next, _, _, _ := chain.Pass(c, w, h)
		want := true
		for i, s := range next {
			want = want && s.Lo >= w[i].Lo
		}
		is, e := chain.Steady(c, w, h)
		if is != want || e != api.OK {
			t.Fatal(seed, is, want, e)
		}
		if !is {
			continue
		}
		steady++
		if hour, pond, e := chain.Low(c, w, slices.Repeat([]api.Hour{h}, 200), lows(w)); e != api.ErrNone {
			t.Fatal(seed, hour, pond, e)
		}
	}
	if steady < 50 {
		t.Error("too few", steady)
	}
}
