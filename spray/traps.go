package spray

import "fenberry/api"

// fewest returns the least number of insects of which a trap can catch as many as it caught: the first n whose n * Rate.Hi / 1000, rounded up, is that many.
func fewest(t api.Trap) int {
	return max(0, (t.Caught-1)*api.Whole/t.Rate.Hi+1)
}

// most returns the greatest number of insects of which a trap can catch as few as it caught: the last n whose n * Rate.Lo / 1000, rounded down, is that many.
func most(t api.Trap) int {
	return ((t.Caught+1)*api.Whole - 1) / t.Rate.Lo
}

// sumOf returns the sum of a number of each element.
func sumOf[T any](l []T, number func(T) int) int {
	sum := 0
	for _, x := range l {
		sum += number(x)
	}
	return sum
}
