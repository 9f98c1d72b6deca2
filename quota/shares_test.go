package quota_test

import (
	"slices"
	"testing"

	"fenberry/api"
	"fenberry/quota"
)

// shared returns the shares that growers 0, 1 and so on get, with their bases.
func shared(bases, amounts []int) []api.Quota {
	var l []api.Quota
	for i, base := range bases {
		l = append(l, api.Quota{Grower: i, Base: base, Amount: amounts[i]})
	}
	return l
}

// P12.4: the chapter's example.
func TestSharesExample(t *testing.T) {
	l, g := exampleCrops(), exampleGlut()
	for total, want := range map[int][2]int{0: {0, 0}, 1: {1, 0}, 37: {27, 10}, 100: {73, 27}, 1850: {1350, 500}, 1 << 20: {765177, 283399}} {
		expectShares(t, "example", l, g, total, []api.Quota{{Grower: 3, Base: 1350, Amount: want[0]}, {Grower: 8, Base: 500, Amount: want[1]}}, api.OK)
	}
}

// P12.4: what is missing goes to those of whom most was cut off, of several to the least grower.
func TestSharesMissing(t *testing.T) {
	for _, c := range []struct {
		total          int
		bases, amounts []int
	}{
		{1, []int{5, 5, 5}, []int{1, 0, 0}}, {2, []int{5, 5, 5}, []int{1, 1, 0}}, {3, []int{5, 5, 5}, []int{1, 1, 1}}, {4, []int{5, 5, 5}, []int{2, 1, 1}},
		// 1.4, 0.7 and 4.9
		{7, []int{2, 1, 7}, []int{1, 1, 5}},
		// 0.6, 0.3 and 2.1
		{3, []int{2, 1, 7}, []int{1, 0, 2}},
		// 0.5, 1.5 and 2: as much is cut off of the first as of the second.
		{4, []int{1, 3, 4}, []int{1, 1, 2}},
		{4, []int{4, 3, 1}, []int{2, 2, 0}},
		// Nobody without a base gets one.
		{5, []int{0, 3, 0, 1}, []int{0, 4, 0, 1}}, {2, []int{0, 1, 0, 1, 1}, []int{0, 1, 0, 1, 0}},
		{1, []int{1, 2}, []int{0, 1}}, {9, []int{0, 1}, []int{0, 9}},
		// 0.001 of each is less than a share.
		{1, []int{1, 999, 1}, []int{0, 1, 0}},
	} {
		expectShares(t, "missing", lastYear(c.bases...), exampleGlut(), c.total, shared(c.bases, c.amounts), api.OK)
	}
	backwards := lastYear(5, 5, 5)
	slices.Reverse(backwards)
	expectShares(t, "the least grower, not the first", backwards, exampleGlut(), 1, shared([]int{5, 5, 5}, []int{1, 0, 0}), api.OK)
}

// P12.4: the total is from 0 to 2^20, ahead of whether there is a base.
func TestSharesErrors(t *testing.T) {
	g := exampleGlut()
	for name, l := range map[string][]api.Crop{"nobody": nil, "nothing": lastYear(0, 0), "none of the years": {{Grower: 3, Year: 2021, Amount: 5}}} {
		for _, n := range strangeNumbers() {
			want := api.ErrNone
			if n < 0 || n > 1<<20 {
				want = api.ErrRange
			}
			expectShares(t, name, l, g, n, nil, want)
		}
	}
	for _, n := range strangeNumbers() {
		if n < 0 || n > 1<<20 {
			expectShares(t, "range", exampleCrops(), g, n, nil, api.ErrRange)
		}
	}
	rounded := append(years(2, 1, 0), years(3, 0, 1)...)
	expectShares(t, "bases that are rounded to nothing", rounded, api.Glut{Year: 2026, Years: 2, Best: 2}, 5, nil, api.ErrNone)
	expectShares(t, "one base of 1", rounded, api.Glut{Year: 2026, Years: 1, Best: 1}, 5, []api.Quota{{Grower: 2}, {Grower: 3, Base: 1, Amount: 5}}, api.OK)
}

// P12.4: the glut's percent makes no difference.
func TestSharesOfAnyPercent(t *testing.T) {
	for percent := range 1001 {
		g := exampleGlut()
		g.Percent = percent
		expectShares(t, "other", exampleCrops(), g, 100, []api.Quota{{Grower: 3, Base: 1350, Amount: 73}, {Grower: 8, Base: 500, Amount: 27}}, api.OK)
	}
}

// P12.4, R5: the greatest numbers are exact.
func TestSharesAtLimits(t *testing.T) {
	most := 1 << 40
	expectShares(t, "all to one", lastYear(most), exampleGlut(), 1<<20, shared([]int{most}, []int{1 << 20}), api.OK)
	expectShares(t, "a gram", lastYear(most, 1), exampleGlut(), 1<<20, shared([]int{most, 1}, []int{1 << 20, 0}), api.OK)
	expectShares(t, "a gram less", lastYear(most-1, most), exampleGlut(), 1, shared([]int{most - 1, most}, []int{0, 1}), api.OK)
	expectShares(t, "a gram less", lastYear(most-1, most), exampleGlut(), 1<<20, shared([]int{most - 1, most}, []int{1 << 19, 1 << 19}), api.OK)
	bases, amounts := slices.Repeat([]int{most}, 256), slices.Repeat([]int{1 << 12}, 256)
	expectShares(t, "all", lastYear(bases...), exampleGlut(), 1<<20, shared(bases, amounts), api.OK)
	amounts[255]--
	expectShares(t, "all but one", lastYear(bases...), exampleGlut(), 1<<20-1, shared(bases, amounts), api.OK)
}

// P12.4: as by giving what is missing to one after the other, with numbers of any size.
func TestSharesAreJudge(t *testing.T) {
	missing, none := 0, 0
	eachWorld(func(seed uint64, r world) {
		l, g := r.someCrops(), r.someGlut()
		for _, total := range []int{r.upTo(20), r.upTo(1 << 20)} {
			want, e := judgeShares(l, g, total)
			expectShares(t, "judge", l, g, total, want, e)
			if e != api.OK {
				none++
			}
			all := 0
			for _, q := range want {
				all += q.Base
			}
			for _, q := range want {
				if n, _ := part(total, q.Base, all); q.Amount > n {
					missing++
				}
			}
		}
		if t.Failed() {
			t.Fatal(seed)
		}
	})
	if missing < 1000 || none < 20 {
		t.Error("too few", missing, none)
	}
}

// P12.6: all shares together are the total, and nobody's is a whole share off the exact part.
func TestSharesAreTheTotal(t *testing.T) {
	eachWorld(func(seed uint64, r world) {
		l, g, total := r.someCrops(), r.someGlut(), r.upTo(1<<20)
		q, e := quota.Shares(l, g, total)
		if e != api.OK {
			return
		}
		all := 0
		for _, x := range q {
			all += x.Base
		}
		for _, x := range q {
			n, rest := part(total, x.Base, all)
			if x.Amount != n && (x.Amount != n+1 || rest == 0) {
				t.Fatal(seed, l, g, total, x, n, rest)
			}
		}
		if sum(q) != total {
			t.Fatal(seed, l, g, total, q)
		}
	})
}
