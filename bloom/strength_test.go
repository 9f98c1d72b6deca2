package bloom_test

import (
	"slices"
	"testing"

	"fenberry/api"
	"fenberry/bloom"
)

// P4.1: the chapter's example, and inspections by hand.
func TestStrengthByHand(t *testing.T) {
	for _, x := range []struct {
		in   api.Inspection
		want api.Span
	}{
		{api.Inspection{Hives: 10, Least: 4, Most: 12, Seen: []api.Span{span(8, 9), span(6, 8)}}, span(46, 113)},
		{api.Inspection{Hives: 10, Least: 4, Most: 12}, span(40, 120)},
		{api.Inspection{Hives: 1, Least: 4, Most: 12}, span(4, 12)},
		{api.Inspection{Hives: 1, Least: 4, Most: 12, Seen: []api.Span{span(5, 6)}}, span(5, 6)},
		{api.Inspection{Hives: 2, Least: 4, Most: 12, Seen: []api.Span{span(5, 6)}}, span(9, 18)},
		{api.Inspection{Hives: 3, Least: 4, Most: 12, Seen: []api.Span{span(5, 5), span(5, 5), span(5, 5)}}, span(15, 15)},
		{api.Inspection{Hives: 7, Least: 3, Most: 3}, span(21, 21)},
		{api.Inspection{Hives: 9}, span(0, 0)},
		{api.Inspection{Hives: 4096, Least: 256, Most: 256}, span(1<<20, 1<<20)},
		{api.Inspection{Hives: 4096, Most: 256, Seen: make([]api.Span, 4095)}, span(0, 256)},
		{api.Inspection{Hives: 4096, Most: 256, Seen: slices.Repeat([]api.Span{span(0, 256)}, 4096)}, span(0, 1<<20)},
	} {
		if s, e := bloom.Strength(x.in); s != x.want || e != api.OK {
			t.Error(x, s, e)
		}
	}
}

// sums returns all numbers of frames that hives can have together, those first that were seen.
func sums(x api.Inspection) map[int]bool {
	all := map[int]bool{0: true}
	for hive := range x.Hives {
		s := span(x.Least, x.Most)
		if hive < len(x.Seen) {
			s = x.Seen[hive]
		}
		next := map[int]bool{}
		for sum := range all {
			for n := s.Lo; n <= s.Hi; n++ {
				next[sum+n] = true
			}
		}
		all = next
	}
	return all
}

// P4.1: the span contains all that can be, and nothing else.
func TestStrengthIsAllSums(t *testing.T) {
	for seed := range uint64(300) {
		in, _ := newWorld(seed, few()).someInspection(9)
		s, e := bloom.Strength(in)
		all := sums(in)
		if !all[s.Lo] || !all[s.Hi] || all[s.Lo-1] || all[s.Hi+1] || len(all) != s.Hi-s.Lo+1 || e != api.OK {
			t.Fatal(seed, in, s, e)
		}
	}
}

// P4.1, P11: in which order hives were seen makes no difference.
func TestStrengthInAnyOrder(t *testing.T) {
	for seed := range uint64(100) {
		in, _ := newWorld(seed, few()).someInspection(9)
		s, _ := bloom.Strength(in)
		slices.Reverse(in.Seen)
		if s2, e := bloom.Strength(in); s != s2 || e != api.OK {
			t.Fatal(seed, in, s, s2, e)
		}
	}
}
