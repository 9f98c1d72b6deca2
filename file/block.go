package file

import (
	"strconv"
	"strings"

	"fenberry/api"
)

// block is the bytes of a note with its number.
type block [api.BlockBytes]byte

const (
	letters     = "ARSPD" // of the kinds, in the order of their numbers
	numberPlace = 1
	textPlace   = 9
	checkPlace  = 56
)

// blockOf returns the block of a valid note with a number.
func blockOf(x api.Note, number int) block {
	text := letters[x.Kind:x.Kind+1] + digits(uint32(number))
	for _, n := range x.N {
		text += " " + strconv.Itoa(n)
	}
	var b block
	copy(b[:], text+strings.Repeat("*", checkPlace-len(text)))
	copy(b[checkPlace:], digits(b.check()))
	return b
}

// check returns the check of the bytes ahead of the place of the check.
func (b block) check() uint32 {
	n := uint32(1)
	for _, c := range b[:checkPlace] {
		n = 33*n + uint32(c)
	}
	return n
}

// digits returns a number in 8 digits of the base 16.
func digits(n uint32) string {
	text := strconv.FormatUint(uint64(n), 16)
	return strings.Repeat("0", 8-len(text)) + text
}

// read returns the note of a block and its number; isNote is false if the block is not that of a valid note.
func (b block) read() (number int, x api.Note, isNote bool) {
	defer func() {
		if recover() != nil {
			number, x, isNote = 0, api.Note{}, false
		}
	}()
	number, x = b.parse()
	return number, x, true
}

// parse panics unless the block is that of a valid note.
func (b block) parse() (number int, x api.Note) {
	parsed, e := strconv.ParseUint(string(b[numberPlace:textPlace]), 16, 32)
	require(e == nil)
	number = int(parsed)
	x.Kind = strings.IndexByte(letters, b[0])
	text := strings.TrimRight(string(b[textPlace:checkPlace]), "*")
	for _, field := range strings.Split(text, " ")[1:] {
		n, e := strconv.Atoi(field)
		require(e == nil)
		x.N = append(x.N, n)
	}
	require(isValid(x))
	// The same numbers may be written in other forms, which are not accepted.
	require(b == blockOf(x, number))
	return number, x
}

func require(holds bool) {
	if !holds {
		panic(api.ErrForm)
	}
}
