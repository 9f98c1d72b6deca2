package quota_test

import (
	"testing"

	"fenberry/api"
	"fenberry/quota"
)

// P12.2: the chapter's examples, and DOC.md's.
func TestPercentExamples(t *testing.T) {
	l, g := exampleCrops(), exampleGlut()
	// With 812 thousandths 1350 are 1096 and 500 are 406; with 999 they are 1348 and 499.
	for demand, want := range map[int]int{0: 0, 1: 1, 1500: 811, 1501: 811, 1502: 812, 1846: 998, 1847: 999, 1848: 999, 1849: 999, 1850: 1000, 1851: 1000, 1 << 40: 1000} {
		expectPercent(t, "example", l, g, demand, want, api.OK)
	}
}

// P12.2: the greatest of those with which the quotas are the same.
func TestPercentIsGreatest(t *testing.T) {
	g := exampleGlut()
	for demand, want := range map[int]int{0: 499, 1: 999, 2: 1000} {
		expectPercent(t, "a base of 2", lastYear(2), g, demand, want, api.OK)
	}
	for demand, want := range map[int]int{0: 499, 1: 499, 2: 499, 3: 999, 5: 999, 6: 1000} {
		expectPercent(t, "three bases of 2", lastYear(2, 2, 2), g, demand, want, api.OK)
	}
	for demand, want := range map[int]int{0: 0, 999: 0, 1000: 1, 1001: 1, 999999: 999, 1000000: 1000} {
		expectPercent(t, "a thousand for each", lastYear(1000000), g, demand, want, api.OK)
	}
	for _, demand := range []int{0, 1, 1 << 40} {
		expectPercent(t, "nobody", nil, g, demand, 1000, api.OK)
		expectPercent(t, "nothing", lastYear(0, 0), g, demand, 1000, api.OK)
	}
}

// P12.2, R5: the greatest numbers are exact.
func TestPercentAtLimits(t *testing.T) {
	l := make([]api.Crop, 256)
	for grower := range l {
		l[grower] = api.Crop{Grower: grower, Year: 2025, Amount: 1 << 40}
	}
	g := exampleGlut()
	// A 256th of 1000 is 3.9; with 3 thousandths 256 quotas of 3298534883 are 844424930048.
	for demand, want := range map[int]int{1 << 40: 3, 844424930048: 3, 844424930047: 2, 281474976512: 1, 281474976511: 0, 0: 0} {
		expectPercent(t, "limits", l, g, demand, want, api.OK)
	}
	expectPercent(t, "limits", l[:1], g, 1<<40, 1000, api.OK)
	expectPercent(t, "limits", l[:1], g, 1<<40-1, 999, api.OK)
	expectPercent(t, "limits", l[:2], g, 1<<40, 500, api.OK)
	expectPercent(t, "limits", l[:2], g, 1<<40-1, 499, api.OK)
}

// P12.2: a demand has to be an amount.
func TestPercentErrors(t *testing.T) {
	for _, n := range strangeNumbers() {
		if n < 0 || n > 1<<40 {
			expectPercent(t, "range", exampleCrops(), exampleGlut(), n, 0, api.ErrRange)
			expectPercent(t, "range", nil, exampleGlut(), n, 0, api.ErrRange)
		}
	}
}

// P12.2: the glut's own percent makes no difference.
func TestPercentOfAnyPercent(t *testing.T) {
	for percent := range 1001 {
		g := exampleGlut()
		g.Percent = percent
		expectPercent(t, "other", exampleCrops(), g, 1500, 811, api.OK)
	}
}

// P12.2: as by going through all percents.
func TestPercentIsJudge(t *testing.T) {
	inside := 0
	eachWorld(func(seed uint64, r world) {
		l, g := r.someCrops(), r.someGlut()
		for range 2 {
			demand := r.someDemand(l, g)
			want := judgePercent(l, g, demand)
			expectPercent(t, "judge", l, g, demand, want, api.OK)
			if want > 0 && want < 1000 {
				inside++
			}
		}
		if t.Failed() {
			t.Fatal(seed)
		}
	})
	if inside < 150 {
		t.Error("too few", inside)
	}
}

// P12.6: with Percent's number all quotas together are at most the demand; with one more they are not, or it is all.
func TestPercentFits(t *testing.T) {
	eachWorld(func(seed uint64, r world) {
		l, g := r.someCrops(), r.someGlut()
		demand := r.someDemand(l, g)
		n, e := quota.Percent(l, g, demand)
		together := func(percent int) int {
			g.Percent = percent
			q, _ := quota.Quotas(l, g)
			return sum(q)
		}
		if e != api.OK || together(n) > demand || n < 1000 && together(n+1) <= demand {
			t.Fatal(seed, l, g, demand, n, e)
		}
	})
}
