package bloom_test

import (
	"slices"
	"testing"

	"fenberry/api"
	"fenberry/bloom"
)

// expectVital checks what Vital returns.
func expectVital(t *testing.T, name string, x api.Bloom, plan [][]int, want []int, wantError api.Errno) {
	t.Helper()
	if l, e := bloom.Vital(x, plan); !slices.Equal(l, want) || e != wantError {
		t.Error(name, plan, l, e, "instead of", want, wantError)
	}
}

// P4.4: the chapter's example, and other plans of it.
func TestVitalExample(t *testing.T) {
	x := example()
	expectVital(t, "cheapest", x, cheapOne(), []int{0, 2}, api.OK)
	expectVital(t, "one too many", x, [][]int{{0, 1, -1}, {0, 1, 1}, {-1, -1, 1}}, []int{0, 2}, api.OK)
	expectVital(t, "two on a bed of which one is enough", x, [][]int{{0, -1, -1}, {0, -1, 1}, {1, -1, 1}}, []int{0, 2}, api.OK)
	expectVital(t, "one for both", x, [][]int{{0, -1, -1}, {0, -1, 1}, {1, -1, -1}}, []int{0, 2}, api.OK)
	expectVital(t, "too weak", x, [][]int{{0, -1, -1}, {0, 1, -1}, {-1, -1, 1}}, nil, api.ErrShort)
	expectVital(t, "too many moves", x, [][]int{{0, -1, -1}, {1, 0, 0}, {1, -1, -1}}, nil, api.ErrLimit)
	expectVital(t, "not to be had", x, [][]int{{0, -1, 0}, {0, -1, 1}, {-1, -1, 1}}, nil, api.ErrRefuse)
	expectVital(t, "no plan", x, nil, nil, api.ErrRange)
}

// P4.4: by hand, on one day with colonies of 5, 5 and 10 frames.
func TestVitalByHand(t *testing.T) {
	for _, c := range []struct {
		name  string
		needs []int
		row   []int
		want  []int
	}{
		{"nobody is needed", []int{0, 0}, []int{0, 0, 1}, nil},
		{"nobody is there", []int{0, 0}, []int{-1, -1, -1}, nil},
		{"each one is enough", []int{5, 0}, []int{0, 0, 0}, nil},
		{"two of three, or the strong one", []int{10, 0}, []int{0, 0, 0}, nil},
		{"the strong one and another one", []int{11, 0}, []int{0, 0, 0}, []int{2}},
		{"just the strong one and another one", []int{15, 0}, []int{0, 0, 0}, []int{2}},
		{"all", []int{16, 0}, []int{0, 0, 0}, []int{0, 1, 2}},
		{"just all", []int{20, 0}, []int{0, 0, 0}, []int{0, 1, 2}},
		{"both weak ones", []int{6, 0}, []int{0, 0, 1}, []int{0, 1}},
		{"one of the weak ones, and the strong one", []int{5, 1}, []int{0, 0, 1}, []int{2}},
		{"one on each", []int{5, 5}, []int{1, -1, 0}, []int{0, 2}},
		{"one is Away", []int{5, 0}, []int{-1, 0, 1}, []int{1}},
	} {
		x := api.Bloom{Days: 1, Moves: 3, Colonies: []api.Colony{always(5, 0), always(5, 0), always(10, 0)}}
		for _, need := range c.needs {
			x.Beds = append(x.Beds, api.BloomBed{Need: need})
		}
		expectVital(t, c.name, x, [][]int{c.row}, c.want, api.OK)
	}
}

// P4.4: a colony that is vital on one day, the first or the last one, is vital; one that is not on any day, is not.
func TestVitalDays(t *testing.T) {
	x := api.Bloom{Days: 3, Moves: 3, Colonies: []api.Colony{always(5, 0), always(5, 0), always(5, 0)}, Beds: []api.BloomBed{{To: 2, Need: 5}}}
	expectVital(t, "on different days", x, [][]int{{-1, 0, 0}, {0, 0, 0}, {0, -1, -1}}, []int{0}, api.OK)
	expectVital(t, "by turns", x, [][]int{{-1, 0, -1}, {0, -1, -1}, {-1, -1, 0}}, []int{0, 1, 2}, api.OK)
	expectVital(t, "always two", x, [][]int{{-1, 0, 0}, {0, -1, 0}, {0, 0, -1}}, nil, api.OK)
	x.Beds[0].From = 1
	expectVital(t, "one ahead of the bloom", x, [][]int{{0, -1, -1}, {-1, 0, -1}, {-1, 0, -1}}, []int{1}, api.OK)
	x.Days = 0
	expectVital(t, "no days", x, nil, nil, api.OK)
	expectVital(t, "no colonies", api.Bloom{Days: 1}, [][]int{nil}, nil, api.OK)
}

// P4.4: as the chapter says it, colony by colony.
func TestVitalIsJudge(t *testing.T) {
	some, none := 0, 0
	eachWorld(func(seed uint64, r world) {
		x := r.someBloom()
		best, e := bestForward(x)
		for i := range 9 {
			plan := r.somePlan(x)
			if e == api.OK && i > 0 {
				plan = r.change(x, best.plan)
			}
			v := judge(x, plan)
			if v.e != api.OK {
				expectVital(t, "not good", x, plan, nil, v.e)
				continue
			}
			var want []int
			for colony := range x.Colonies {
				if judge(x, without(plan, colony)).e != api.OK {
					want = append(want, colony)
				}
			}
			some, none = some+len(want), none+len(x.Colonies)-len(want)
			expectVital(t, "good", x, plan, want, api.OK)
		}
	})
	if min(some, none) < 200 {
		t.Error("too few", some, none)
	}
}
