package file

import (
	"iter"
	"slices"

	"fenberry/api"
)

// blocks is a ring, block by block.
type blocks []block

// blocksOf returns the blocks of a ring, as new memory.
func blocksOf(ring []byte) (blocks, api.Errno) {
	count := len(ring) / api.BlockBytes
	if len(ring)%api.BlockBytes != 0 || !isRingOf(count) {
		return nil, api.ErrForm
	}
	r := make(blocks, count)
	for place := range r {
		copy(r[place][:], ring[place*api.BlockBytes:])
	}
	return r, api.OK
}

func (r blocks) bytes() []byte {
	var ring []byte
	for _, b := range r {
		ring = append(ring, b[:]...)
	}
	return ring
}

// right yields the notes of the right blocks with their numbers.
func (r blocks) right() iter.Seq2[int, api.Note] {
	return func(yield func(number int, x api.Note) bool) {
		for place, b := range r {
			number, x, isNote := b.read()
			if isNote && number%len(r) == place && !yield(number, x) {
				return
			}
		}
	}
}

// newest returns the number of the newest note; -1 if there is none.
func (r blocks) newest() int {
	newest := -1
	for number := range r.right() {
		newest = max(newest, number)
	}
	return newest
}

// notes returns the newest note and those that are ahead of it without a gap, and the number of the first one; 0 if there are none.
func (r blocks) notes() (l []api.Note, first int) {
	all := map[int]api.Note{}
	for number, x := range r.right() {
		all[number] = x
	}
	first = r.newest() + 1
	for {
		x, isThere := all[first-1]
		if !isThere {
			break
		}
		l = append(l, x)
		first--
	}
	slices.Reverse(l)
	return l, first
}
