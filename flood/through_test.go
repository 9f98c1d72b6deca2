package flood_test

import (
	"math"
	"testing"

	"fenberry/api"
	"fenberry/flood"
)

// P7.3: the chapter's examples.
func TestThroughExamples(t *testing.T) {
	for _, c := range [][2]int{{211, 1}, {212, 2}, {0, 0}, {139, 0}, {140, 1}, {421, 2}, {422, 3}, {423, 3}, {api.MaxAmount, 3}} {
		expectThrough(t, "example", example(), []int{0, 1, 2}, c[0], c[1], api.OK)
	}
}

// P7.3: several beds may be harvested first in the same minute as the beds ahead of them are surely harvested.
func TestThroughByHand(t *testing.T) {
	h := even(3)
	for minute, want := range []int{0, 1, 2, 3, 3} {
		expectThrough(t, "no work", h, []int{2, 0, 1}, minute, want, api.OK)
	}
	h.Bogs[0].Work = works(span(0, 2))
	for minute, want := range []int{0, 1, 1, 1, 2, 3, 3} {
		expectThrough(t, "the greatest minute", h, []int{2, 0, 1}, minute, want, api.OK)
	}
	h.Bogs[0].Work = works(one(api.MaxWorking))
	for minute, want := range map[int]int{16384: 0, 16385: 1, 16386: 2, 16387: 3} {
		expectThrough(t, "the first bed takes long", h, []int{0, 1, 2}, minute, want, api.OK)
	}
}

// P7.3: ErrShort as Times does, then ErrRange unless minute is from 0 to MaxAmount.
func TestThroughErrors(t *testing.T) {
	bad := []int{math.MinInt, -1, api.MaxAmount + 1, math.MaxInt}
	for _, minute := range append([]int{0, 500, api.MaxAmount}, bad...) {
		invalid := example()
		invalid.Inlet = 0
		expectThrough(t, "not valid", invalid, []int{0, 0}, minute, 0, api.ErrArg)
		expectThrough(t, "no order", withReserve(example(), 0), []int{0, 2}, minute, 0, api.ErrRange)
		expectThrough(t, "cannot be", withReserve(example(), 0), []int{0, 2, 1}, minute, 0, api.ErrNone)
		expectThrough(t, "short", withReserve(example(), 1439), []int{0, 1, 2}, minute, 0, api.ErrShort)
	}
	for _, minute := range bad {
		expectThrough(t, "minute", withReserve(example(), 1440), []int{0, 1, 2}, minute, 0, api.ErrRange)
	}
}

// P7.3: as counting the beds by the minutes of Times, around all of them.
func TestThroughIsTimes(t *testing.T) {
	counted := 0
	eachWorld(func(seed uint64, r world) {
		h := r.someHarvest()
		order := r.someOrder(h)
		l, _, e := flood.Times(h, order)
		minutes := []int{0, api.MaxAmount}
		for _, b := range l {
			minutes = append(minutes, b.Filled.Lo, b.Filled.Hi, b.Done.Lo, b.Done.Hi-1, b.Done.Hi, b.Done.Hi+1)
		}
		for _, minute := range minutes {
			want := 0
			for _, b := range l {
				if b.Done.Hi <= minute {
					want++
				}
			}
			counted += want
			expectThrough(t, "judge", h, order, minute, want, e)
		}
		if t.Failed() {
			t.Fatal(seed, h, order)
		}
	})
	if counted < 1000 {
		t.Error("too few", counted)
	}
}
