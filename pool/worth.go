package pool

import (
	"sort"

	"fenberry/api"
)

// worthOf returns what a delivery is worth, and the first line of those that give the least, ahead of rounding. No line gives 2^46 or more: there are at most 2^27 grams, which are worth at most 2^17 each, and less than 2^35 of colour, which is worth at most 2^9.
func worthOf(t api.Terms, d api.Delivery) (worth, line int) {
	line, millionths := least(t.Lines, func(p api.Price) int { return d.Good*p.PerGram + d.Colour*p.PerColour })
	return millionths / api.Million, line
}

// advanceOf returns how much of a worth is paid at once.
func advanceOf(t api.Terms, worth int) int { return worth * t.Advance / api.Whole }

// least returns the first of some things of which a number is the least, by its index, and the number. There is at least one.
func least[T any](things []T, number func(t T) int) (index, n int) {
	n = number(things[0])
	for i, t := range things {
		if m := number(t); m < n {
			index, n = i, m
		}
	}
	return index, n
}

// leastEnough returns the least number from 0 to most that is enough; ErrShort if there is none. What is more than enough has to be enough, too.
func leastEnough(most int, isEnough func(n int) bool) (int, api.Errno) {
	n := sort.Search(most+1, isEnough)
	if n > most {
		return 0, api.ErrShort
	}
	return n, api.OK
}
