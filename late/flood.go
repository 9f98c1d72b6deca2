package late

import (
	"iter"
	"math/bits"

	"fenberry/api"
)

// flood is the day with which a flood starts, and how many days it has.
type flood struct{ start, days int }

// noFlood is the panic of a flood that is none, and of fresh days that are none of it.
type noFlood struct{}

// newFlood panics unless a valid forecast has all days of the flood.
func newFlood(l api.Late, start, days int) flood {
	if !isWithin(start, len(l.Warm)) || !isWithin(days, len(l.Warm)-start) {
		panic(noFlood{})
	}
	return flood{start, days}
}

// setOf returns the set of the days of a list; it panics unless they are days of the flood, strictly rising.
func (f flood) setOf(l []int) set {
	var s set
	next := f.start
	for _, day := range l {
		if day < next || day >= f.start+f.days {
			panic(noFlood{})
		}
		s |= 1 << day
		next = day + 1
	}
	return s
}

// sets yields all sets of days of the flood, those with fewer days first, and those with as many in the order of their lists.
func (f flood) sets() iter.Seq[set] {
	return func(yield func(set) bool) {
		all := 1 << f.days
		for size := range f.days + 1 {
			for n := range all {
				// The first day weighs most in a number, so the greatest number is that of the first list.
				s := f.numbered(all - 1 - n)
				if s.size() == size && !yield(s) {
					return
				}
			}
		}
	}
}

// numbered returns the set of the days that are the bits of a number, of which the highest one is the first day of the flood.
func (f flood) numbered(n int) set {
	return set(bits.Reverse64(uint64(n)) >> (64 - f.days) << f.start)
}

// set is a set of days, as bits.
type set uint64

func (s set) has(day int) bool { return s>>day&1 == 1 }

func (s set) size() int { return bits.OnesCount64(uint64(s)) }

// list returns the days of the set, rising.
func (s set) list() []int {
	var l []int
	for day := range bits.Len64(uint64(s)) {
		if s.has(day) {
			l = append(l, day)
		}
	}
	return l
}
