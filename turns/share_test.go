package turns_test

import (
	"slices"
	"testing"

	"fenberry/api"
	"fenberry/turns"
)

// P2.1: the chapter's examples, and sharings by hand.
func TestShareExamples(t *testing.T) {
	l, _, _ := example()
	const all = api.MaxAmount
	for _, x := range []struct {
		needs []int
		water int
		want  []int
	}{
		{[]int{100, 100, 5}, 20, []int{10, 5, 5}},
		{[]int{100, 100, 5}, 0, []int{0, 0, 0}},
		{[]int{100, 100, 5}, 1, []int{1, 0, 0}}, // at 1/2
		{[]int{100, 100, 5}, 2, []int{1, 0, 1}}, // at 1 all three: the least grower first
		{[]int{100, 100, 5}, 3, []int{2, 0, 1}},
		{[]int{100, 100, 5}, 4, []int{2, 1, 1}},
		{[]int{100, 100, 5}, 30, []int{17, 8, 5}},
		{[]int{0, 0, 0}, 7, []int{0, 0, 0}},
		{[]int{0, 3, 0}, 2, []int{0, 2, 0}},
		{[]int{4, 3, 2}, 9, []int{4, 3, 2}},
		{[]int{4, 3, 2}, 8, []int{4, 2, 2}},
		{[]int{4, 3, 2}, all, []int{4, 3, 2}},
		{[]int{all, all, all}, all, []int{all / 2, all / 4, all / 4}},
		{[]int{all, 0, 0}, all, []int{all, 0, 0}},
		{[]int{0, all, 1}, all, []int{0, all - 1, 1}},
		{[]int{all, all, all}, all - 1, []int{all / 2, all/4 - 1, all / 4}},
	} {
		if got, e := turns.Share(l, x.needs, x.water); !slices.Equal(got, x.want) || e != api.OK {
			t.Error(x.needs, x.water, got, e)
		}
	}
}

// P2.1: ranks, Most and Total are not looked at.
func TestShareOfAnyRank(t *testing.T) {
	l := []api.Right{{Grower: 0, Rank: 255, Share: 1}, {Grower: 1023, Rank: 0, Share: 1, Most: 1, Total: 1}}
	if got, e := turns.Share(l, []int{9, 9}, 11); !slices.Equal(got, []int{6, 5}) || e != api.OK {
		t.Error(got, e)
	}
}

// P2.1: the least and the greatest share, and as many rights as can be.
func TestShareExtremes(t *testing.T) {
	l := []api.Right{{Grower: 1, Share: 1}, {Grower: 0, Share: 1000}, {Grower: 2, Share: 999}}
	const all = api.MaxAmount
	for _, x := range []struct {
		water int
		want  []int
	}{
		{1, []int{0, 1, 0}},
		{2, []int{0, 1, 1}},
		{1997, []int{0, 999, 998}},
		{1998, []int{0, 1000, 998}}, // at 1 all three
		{1999, []int{1, 1000, 998}},
		{2000, []int{1, 1000, 999}},
		{2000 * 7, []int{7, 7000, 6993}},
	} {
		if got, e := turns.Share(l, []int{all, all, all}, x.water); !slices.Equal(got, x.want) || e != api.OK {
			t.Error(x.water, got, e)
		}
	}
	many, needs := make([]api.Right, 64), slices.Repeat([]int{all}, 64)
	for i := range many {
		many[i] = api.Right{Grower: 1023 - i, Share: 1000}
	}
	got, e := turns.Share(many, needs, 64*5+2)
	if want := append(slices.Repeat([]int{5}, 62), 6, 6); !slices.Equal(got, want) || e != api.OK {
		t.Error(got, e)
	}
	if got, e := turns.Share(nil, nil, 5); len(got) != 0 || e != api.OK {
		t.Error(got, e)
	}
}

// P2.1, P4: what Share returns is what litre by litre gives.
func TestShareIsLitreByLitre(t *testing.T) {
	for seed := range uint64(3000) {
		s := few()
		s.share = 1 + int(seed)%40
		r := newWorld(seed, s)
		l := r.someRights()
		var needs []int
		for range l {
			needs = append(needs, r.amount())
		}
		water := r.IntN(sum(needs) + 3)
		want := litreByLitre(l, needs, water)
		if got, e := turns.Share(l, needs, water); !slices.Equal(got, want) || e != api.OK {
			t.Fatal(seed, l, needs, water, got, want, e)
		}
	}
}

// isFair reports whether nobody has a litre that another one, who needs more, should have had.
func isFair(l []api.Right, needs, gets []int) bool {
	for i, r := range l {
		for k, other := range l {
			if i != k && gets[i] > 0 && gets[k] < needs[k] && isAhead(other, gets[k]+1, r, gets[i]) {
				return false
			}
		}
	}
	return true
}

// P2.1, P2.6: with great numbers, too, all water is given that is needed, to those who should have it.
func TestShareIsFair(t *testing.T) {
	s := great()
	s.litres = api.MaxAmount
	for seed := range uint64(500) {
		r := newWorld(seed, s)
		l := r.someRights()
		var needs []int
		for range l {
			needs = append(needs, r.amount()>>r.IntN(40))
		}
		water := min(api.MaxAmount, r.IntN(sum(needs)+1))
		gets, e := turns.Share(l, needs, water)
		if e != api.OK || len(gets) != len(l) || sum(gets) != water || !isFair(l, needs, gets) {
			t.Fatal(seed, l, needs, water, gets, e)
		}
		for i, n := range gets {
			if n < 0 || n > needs[i] {
				t.Fatal(seed, i, n, needs[i])
			}
		}
	}
}

// P2.6, P4, P11: each grower gets the same in any order of the rights.
func TestShareInAnyOrder(t *testing.T) {
	for seed := range uint64(300) {
		r := newWorld(seed, great())
		l := r.someRights()
		needs := map[int]int{}
		gets := map[int]int{}
		water := r.amount()
		for turn := range 3 {
			r.Shuffle(len(l), func(i, k int) { l[i], l[k] = l[k], l[i] })
			var list []int
			for _, x := range l {
				if turn == 0 {
					needs[x.Grower] = r.amount()
				}
				list = append(list, needs[x.Grower])
			}
			got, e := turns.Share(l, list, water)
			if e != api.OK {
				t.Fatal(seed, e)
			}
			for i, x := range l {
				if turn > 0 && gets[x.Grower] != got[i] {
					t.Fatal(seed, x.Grower, gets[x.Grower], got[i])
				}
				gets[x.Grower] = got[i]
			}
		}
	}
}

// P2.1: litres that come almost at once, at 998/999 and 999/1000, come one after the other.
func TestShareOfNarrowShares(t *testing.T) {
	l := []api.Right{{Grower: 5, Share: 1000}, {Grower: 6, Share: 999}, {Grower: 7, Share: 998}}
	needs := slices.Repeat([]int{api.MaxAmount}, 3)
	has := []int{0, 0, 0}
	for water := range 3000 {
		if got, e := turns.Share(l, needs, water); !slices.Equal(got, has) || e != api.OK {
			t.Fatal(water, got, has, e)
		}
		next := 0
		for i := range l {
			if isAhead(l[i], has[i]+1, l[next], has[next]+1) {
				next = i
			}
		}
		has[next]++
	}
}
