package turns

import (
	"cmp"
	"slices"
	"sort"

	"fenberry/api"
)

// A level tells how much water those who share have got for each of their share, in parts of a litre. The parts are so small that all litres that come between a level and the next one come at once: the n-th litre of a claim comes at n / Share, and two such numbers differ by at least 1 / MaxShare^2, if at all.
const (
	parts    = 1 << 20               // more than MaxShare^2
	topLevel = api.MaxAmount * parts // everybody has got any amount
)

// claim is a right, and how much it needs of some water that is shared.
type claim struct {
	api.Right
	need int
}

// compare tells which one of two claims comes first: the one of the lesser grower.
func (c claim) compare(d claim) int { return cmp.Compare(c.Grower, d.Grower) }

// upTo returns how many litres the claim has got when the water has risen to a level.
func (c claim) upTo(level int) int {
	// Whole litres and parts apart, as level times Share may be too great for an int.
	return min(c.need, level/parts*c.Share+level%parts*c.Share/parts)
}

// divide shares water among claims as if it were given litre by litre, and returns what each grower gets.
func divide(l []claim, water int) map[int]int {
	allUpTo := func(level int) int {
		sum := 0
		for _, c := range l {
			sum += c.upTo(level)
		}
		return sum
	}
	level := sort.Search(topLevel, func(level int) bool { return allUpTo(level+1) > water })
	rest := water - allUpTo(level)
	gets := map[int]int{}
	for _, c := range slices.SortedFunc(slices.Values(l), claim.compare) {
		gets[c.Grower] = c.upTo(level)
		if rest > 0 && c.upTo(level+1) > c.upTo(level) {
			gets[c.Grower]++
			rest--
		}
	}
	return gets
}
