package station

import "iter"

// bouncing returns how many berries bounce over a board with the first so many tries of each.
func bouncing(berries [][]int, board, tries int) int {
	n := 0
nextBerry:
	for heights := range firstTries(berries, tries) {
		for _, height := range heights {
			if height >= board {
				n++
				continue nextBerry
			}
		}
	}
	return n
}

// firstTries yields the heights of the first so many tries of each berry, or of all of them, if it has fewer.
func firstTries(berries [][]int, tries int) iter.Seq[[]int] {
	return func(yield func([]int) bool) {
		for _, heights := range berries {
			if !yield(heights[:min(tries, len(heights))]) {
				return
			}
		}
	}
}
