package late_test

import (
	"slices"
	"testing"

	"fenberry/api"
	"fenberry/late"
)

// truth is what is true of a flood: the warmth, and the oxygen at the end of each day, and behind it by how much the weeds and on how many days the vines have suffered.
type truth struct {
	warmth, oxygen  []int
	weeds, suffered int
}

// live lets a flood go by; pick chooses a number of each span.
func live(l api.Late, start, days int, fresh []int, pick func(s api.Span) int, pickUse func(s api.Span) int) truth {
	var t truth
	now := standing{oxygen: pick(l.First)}
	for day := start; day < start+days; day++ {
		// Warm water is less oxygen, so it is picked like what is used.
		w := pickUse(l.Warm[day])
		if slices.Contains(fresh, day) {
			now.oxygen = pick(l.Fresh)
		}
		now = judgeStanding(l, now, pick(l.Air[day]), pickUse(judgeUsed(l, w)))
		t.weeds += max(0, w-l.Base)
		t.warmth, t.oxygen = append(t.warmth, w), append(t.oxygen, now.oxygen)
	}
	t.suffered = now.suffered
	return t
}

func lowest(s api.Span) int { return s.Lo }

func highest(s api.Span) int { return s.Hi }

// P6.7, P3: whatever is true is within its spans, and what is sure is so.
func TestTruthIsWithin(t *testing.T) {
	var sure [2][3]int
	eachWorld(func(seed uint64, r world) {
		l := r.someForecast()
		start, days := r.someFlood(l)
		fresh := r.someFresh(start, days)
		warmth, _ := late.Warmth(l, start, days)
		oxygen, _ := late.Oxygen(l, start, days, fresh)
		weeds, vines, _ := late.Tells(l, start, days, fresh)
		sure[0][weeds]++
		sure[1][vines]++
		some := func(s api.Span) int { return r.between(s.Lo, s.Hi) }
		end := func(s api.Span) int { return []int{s.Lo, s.Hi}[r.IntN(2)] }
		for _, pick := range []func(api.Span) int{some, end, lowest, highest} {
			for _, pickUse := range []func(api.Span) int{some, end, lowest, highest} {
				fact := live(l, start, days, fresh, pick, pickUse)
				if fact.weeds < warmth.Lo || fact.weeds > warmth.Hi {
					t.Fatal(seed, l, start, days, warmth, fact)
				}
				for day, o := range fact.oxygen {
					if o < oxygen[day].Lo || o > oxygen[day].Hi {
						t.Fatal(seed, l, start, days, fresh, oxygen, fact)
					}
				}
				dead, hurt := fact.weeds >= l.Kill, fact.suffered > l.Bear
				if weeds == api.Surely && !dead || weeds == api.No && dead || vines == api.Surely && !hurt || vines == api.No && hurt {
					t.Fatal(seed, l, start, days, fresh, weeds, vines, fact)
				}
			}
		}
	})
	for i := range 3 {
		if min(sure[0][i], sure[1][i]) < 40 {
			t.Error("too few", sure)
		}
	}
}

// P6.7: all least numbers of the oxygen can be true together, and all greatest ones; so can both ends of the warmth; and what is perhaps so may be so, or not.
func TestEndsCanBeTrue(t *testing.T) {
	eachWorld(func(seed uint64, r world) {
		l := r.someForecast()
		start, days := r.someFlood(l)
		fresh := r.someFresh(start, days)
		warmth, _ := late.Warmth(l, start, days)
		oxygen, _ := late.Oxygen(l, start, days, fresh)
		weeds, vines, _ := late.Tells(l, start, days, fresh)
		worst := live(l, start, days, fresh, lowest, highest)
		best := live(l, start, days, fresh, highest, lowest)
		for day, s := range oxygen {
			if worst.oxygen[day] != s.Lo || best.oxygen[day] != s.Hi {
				t.Fatal(seed, l, start, days, fresh, s, worst, best)
			}
		}
		if len(oxygen) != days || warmth != span(best.weeds, worst.weeds) {
			t.Fatal(seed, l, start, days, warmth, best, worst)
		}
		if weeds != judgeSure(worst.weeds >= l.Kill, best.weeds < l.Kill) || vines != judgeSure(worst.suffered > l.Bear, best.suffered <= l.Bear) {
			t.Fatal(seed, l, start, days, fresh, weeds, vines, worst, best)
		}
	})
}

// P6.8: with a day less than Drowned says the weeds may not be dead; with a day more than Bears says the vines may be hurt.
func TestNoDayLessOrMore(t *testing.T) {
	less, more := 0, 0
	eachWorld(func(seed uint64, r world) {
		l := r.someForecast()
		for start := range len(l.Warm) + 1 {
			drowned, e := late.Drowned(l, start)
			bears, f := late.Bears(l, start)
			tells := func(days, wantWeeds, wantVines int) {
				weeds, vines, _ := late.Tells(l, start, days, nil)
				if wantWeeds >= 0 && (weeds == api.Surely) != (wantWeeds == api.Surely) || wantVines >= 0 && (vines == api.No) != (wantVines == api.No) {
					t.Fatal(seed, l, start, days, weeds, vines, drowned, bears)
				}
			}
			left := len(l.Warm) - start
			switch {
			case e == api.OK && drowned > 0:
				less++
				tells(drowned-1, api.Perhaps, -1)
				tells(drowned, api.Surely, -1)
			case e == api.ErrNone:
				tells(left, api.Perhaps, -1)
			}
			tells(bears, -1, api.No)
			if f == api.OK && bears < left {
				more++
				tells(bears+1, -1, api.Perhaps)
			}
		}
	})
	if min(less, more) < 500 {
		t.Error("too few", less, more)
	}
}

// P6.8: no flood in which both is sure has fewer days than that of Best, or as many and starts ahead of it.
func TestNoFloodIsBetter(t *testing.T) {
	sure := 0
	eachWorld(func(seed uint64, r world) {
		l := r.someForecast()
		bestStart, bestDays, e := late.Best(l)
		for range 20 {
			start, days := r.someFlood(l)
			weeds, vines, _ := late.Tells(l, start, days, nil)
			if weeds != api.Surely || vines != api.No {
				continue
			}
			sure++
			if e != api.OK || days < bestDays || days == bestDays && start < bestStart {
				t.Fatal(seed, l, bestStart, bestDays, e, start, days)
			}
		}
	})
	if sure < 500 {
		t.Error("too few", sure)
	}
}

// P6.8: with fewer fresh days than those of Freshen the vines may be hurt; with these they surely are not.
func TestNoFewerFreshDays(t *testing.T) {
	fewer := 0
	eachWorld(func(seed uint64, r world) {
		l := r.someForecast()
		start, days := r.someFlood(l)
		days = min(days, api.MaxFresh)
		fresh, e := late.Freshen(l, start, days)
		if _, vines, f := late.Tells(l, start, days, fresh); e == api.OK && (vines != api.No || f != api.OK) {
			t.Fatal(seed, l, start, days, fresh, vines, f)
		}
		for range 20 {
			other := r.someFresh(start, days)
			if e == api.OK && len(other) >= len(fresh) {
				continue
			}
			fewer++
			if _, vines, _ := late.Tells(l, start, days, other); vines == api.No {
				t.Fatal(seed, l, start, days, fresh, e, other)
			}
		}
	})
	if fewer < 300 {
		t.Error("too few", fewer)
	}
}

// raise returns the span with one end or both raised, to most at most.
func (r world) raise(s api.Span, most int) api.Span {
	s.Hi = r.between(s.Hi, most)
	if r.IntN(2) == 0 {
		s.Lo = r.between(s.Lo, s.Hi)
	}
	return s
}

// moreOxygen returns forecasts with more oxygen at first, from the air, and in fresh water.
func (r world) moreOxygen(l api.Late) [3]api.Late {
	first, air, fresh := clone(l), clone(l), clone(l)
	first.First = r.raise(l.First, l.Full)
	fresh.Fresh = r.raise(l.Fresh, l.Full)
	for day, s := range air.Air {
		air.Air[day] = r.raise(s, api.MaxOxygen)
	}
	return [3]api.Late{first, air, fresh}
}

// P6.9: with more oxygen vines bear no fewer days, with fresh days too.
func TestMoreOxygenIsBorne(t *testing.T) {
	var longer, safer [3]int
	eachWorld(func(seed uint64, r world) {
		l := r.someForecast()
		start, days := r.someFlood(l)
		fresh := r.someFresh(start, days)
		bears, _ := late.Bears(l, start)
		_, vines, _ := late.Tells(l, start, days, fresh)
		for i, more := range r.moreOxygen(l) {
			bears2, e := late.Bears(more, start)
			_, vines2, f := late.Tells(more, start, days, fresh)
			if bears2 < bears || vines2 > vines || e != api.OK || f != api.OK {
				t.Fatal(seed, i, l, more, start, days, fresh, bears, bears2, vines, vines2)
			}
			if bears2 > bears {
				longer[i]++
			}
			if vines2 < vines {
				safer[i]++
			}
		}
	})
	if min(longer[0], longer[1], safer[0], safer[1], safer[2]) < 10 || longer[2] > 0 {
		t.Error("too few", longer, safer)
	}
}

// P6.9: in a longer flood the weeds suffer no less, and the vines on no fewer days.
func TestLongerFloods(t *testing.T) {
	eachWorld(func(seed uint64, r world) {
		l := r.someForecast()
		start, days := r.someFlood(l)
		fresh := r.someFresh(start, days)
		var last api.Span
		lastWeeds, lastVines := 0, 0
		for n := range days + 1 {
			fresh := slices.DeleteFunc(slices.Clone(fresh), func(day int) bool { return day >= start+n })
			warmth, _ := late.Warmth(l, start, n)
			weeds, vines, e := late.Tells(l, start, n, fresh)
			if warmth.Lo < last.Lo || warmth.Hi < last.Hi || weeds < lastWeeds || vines < lastVines || e != api.OK {
				t.Fatal(seed, l, start, n, fresh, last, warmth, weeds, vines)
			}
			last, lastWeeds, lastVines = warmth, weeds, vines
		}
	})
}

// Days behind a flood, and days ahead of it, are not looked at.
func TestOtherDaysDoNotMatter(t *testing.T) {
	eachWorld(func(seed uint64, r world) {
		l := r.someForecast()
		start, days := r.someFlood(l)
		fresh := r.someFresh(start, days)
		cut := clone(l)
		cut.Warm, cut.Air = cut.Warm[start:start+days], cut.Air[start:start+days]
		var moved []int
		for _, day := range fresh {
			moved = append(moved, day-start)
		}
		oxygen, _ := late.Oxygen(l, start, days, fresh)
		expectOxygen(t, "cut", cut, 0, days, moved, oxygen...)
		warmth, _ := late.Warmth(l, start, days)
		expectWarmth(t, "cut", cut, 0, days, warmth)
		weeds, vines, _ := late.Tells(l, start, days, fresh)
		expectTells(t, "cut", cut, 0, days, moved, weeds, vines)
		if t.Failed() {
			t.Fatal(seed, l)
		}
	})
}

// R3: a nil list and an empty one are the same.
func TestNilIsEmpty(t *testing.T) {
	empty := api.Late{Warm: []api.Span{}, Air: []api.Span{}}
	mixed := api.Late{Warm: []api.Span{}}
	for _, l := range []api.Late{{}, empty, mixed} {
		expectOxygen(t, "empty", l, 0, 0, []int{})
		expectOxygen(t, "nil", l, 0, 0, nil)
		expectWarmth(t, "empty", l, 0, 0, span(0, 0))
		expectTells(t, "empty", l, 0, 0, []int{}, 2, 0)
		expectFreshen(t, "empty", l, 0, 0, nil, api.OK)
	}
	oxygen, _ := late.Oxygen(example(), 0, 6, nil)
	expectOxygen(t, "empty", example(), 0, 6, []int{}, oxygen...)
}

// R4: arguments are only read.
func TestArgumentsAreOnlyRead(t *testing.T) {
	eachWorld(func(seed uint64, r world) {
		l := r.someForecast()
		start, days := r.someFlood(l)
		fresh := r.someFresh(start, days)
		before, freshBefore := clone(l), slices.Clone(fresh)
		answers(t, l, start, days, fresh)
		if !sameForecast(l, before) || !slices.Equal(fresh, freshBefore) {
			t.Fatal(seed, l, before, fresh, freshBefore)
		}
	})
}

// R4: results are new: one that is changed changes no other one.
func TestResultsAreNew(t *testing.T) {
	l := example()
	fresh := []int{1}
	oxygen, _ := late.Oxygen(l, 0, 4, fresh)
	list, _ := late.Freshen(l, 0, 4)
	clear(oxygen)
	list[0] = 3
	expectOxygen(t, "again", l, 0, 4, fresh, span(6460, 7600), span(7460, 8100), span(5920, 7200), span(3780, 5800))
	expectFreshen(t, "again", l, 0, 4, []int{1}, api.OK)
	if fresh[0] != 1 {
		t.Error("shared", fresh)
	}
}

// P11: the same call gives the same, whatever was called ahead of it.
func TestSameAgain(t *testing.T) {
	eachWorld(func(seed uint64, r world) {
		l := r.someForecast()
		start, days := r.someFlood(l)
		days = min(days, api.MaxFresh)
		first, e := late.Freshen(l, start, days)
		bestStart, bestDays, f := late.Best(l)
		answers(t, r.someForecast(), start, days, nil)
		expectFreshen(t, "again", clone(l), start, days, first, e)
		expectBest(t, "again", clone(l), bestStart, bestDays, f)
	})
}
