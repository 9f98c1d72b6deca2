package frost

import (
	"cmp"
	"math/bits"
	"slices"
)

// set is a set of beds, as bits.
type set uint16

// setOf returns the set of the beds of a list.
func setOf(l []int) set {
	var s set
	for _, bed := range l {
		s |= 1 << bed
	}
	return s
}

func (s set) has(bed int) bool { return s>>bed&1 == 1 }

func (s set) size() int { return bits.OnesCount16(uint16(s)) }

// list returns the beds of the set, rising.
func (s set) list() []int {
	var l []int
	for bed := range bits.Len16(uint16(s)) {
		if s.has(bed) {
			l = append(l, bed)
		}
	}
	return l
}

// place puts sets of one size into the lexicographic order of their lists: the first bed that is in only one of two sets decides, so the least bed has to weigh most.
func (s set) place() int { return -int(bits.Reverse16(uint16(s))) }

// sortBy sorts a list by the first of some keys, what is alike in it by the next one, and so on.
func sortBy[T any](l []T, keys ...func(T) int) {
	slices.SortFunc(l, func(a, b T) int {
		for _, key := range keys {
			if c := cmp.Compare(key(a), key(b)); c != 0 {
				return c
			}
		}
		return 0
	})
}
