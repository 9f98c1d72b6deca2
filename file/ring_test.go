package file_test

import (
	"bytes"
	"fmt"
	"math"
	"slices"
	"testing"

	"fenberry/api"
	"fenberry/file"
)

// P14.1: an empty ring.
func TestEmpty(t *testing.T) {
	for _, blocks := range append(strangeNumbers(), 2, 3, 254, math.MaxInt/64, math.MaxInt/64+3, 1<<58+2) {
		ring, e := file.Empty(blocks)
		if blocks < 2 || blocks > 256 {
			if e != api.ErrRange || len(ring) > 0 {
				t.Error(blocks, len(ring), e)
			}
			continue
		}
		if e != api.OK || len(ring) != 64*blocks || bytes.Count(ring, []byte{255}) != len(ring) {
			t.Errorf("%d %q %d", blocks, ring, e)
		}
		expectRead(t, "empty", ring, nil, 0, api.OK)
	}
}

// P14.2 to P14.4: the chapter's examples.
func TestExamples(t *testing.T) {
	ring := write(t, 3, readings(1, 5)...)
	expectRead(t, "five", ring, readings(3, 5), 2, api.OK)
	torn, e := file.Tear(ring, reading(6), 20)
	if e != api.OK {
		t.Error(e)
	}
	expectRead(t, "torn", torn, readings(4, 5), 3, api.OK)
	torn, e = file.Tear(write(t, 3, reading(1)), reading(6), 20)
	if e != api.OK {
		t.Error(e)
	}
	expectRead(t, "one", torn, readings(1, 1), 0, api.OK)
}

// P14.2 to P14.4: bytes that do not have the length of a ring, whatever else there is.
func TestLengths(t *testing.T) {
	for n := range 64*258 + 2 {
		isRing := n%64 == 0 && n >= 128 && n <= 64*256
		if n > 400 && n < 16300 && n%64 > 1 && n%64 < 63 || isRing {
			continue
		}
		ring := bytes.Repeat([]byte{255}, n)
		expectRead(t, "length", ring, nil, 0, api.ErrForm)
		for _, x := range []api.Note{reading(1), note(9), note(1)} {
			expectAppend(t, "length", ring, x, nil, api.ErrForm)
			for _, bytes := range []int{0, 20, 64, 65, -1} {
				expectTear(t, "length", ring, x, bytes, nil, api.ErrForm)
			}
		}
	}
	for _, n := range []int{64 * 2, 64 * 3, 64 * 255, 64 * 256} {
		expectRead(t, "ring", make([]byte, n), nil, 0, api.OK)
		expectAppend(t, "ring", make([]byte, n), reading(1), put(make([]byte, n), 0, blockOf(reading(1), 0)), api.OK)
	}
	expectRead(t, "nil", nil, nil, 0, api.ErrForm)
	expectRead(t, "empty", []byte{}, nil, 0, api.ErrForm)
	// A right block alone is no ring.
	expectRead(t, "one", []byte(blockOf(reading(1), 0)), nil, 0, api.ErrForm)
	whole := ringWith(3, 0, readings(1, 3)...)
	expectRead(t, "cut", whole[:191], nil, 0, api.ErrForm)
	expectRead(t, "longer", append(slices.Clone(whole), '\n'), nil, 0, api.ErrForm)
	expectAppend(t, "full", append(ringWith(2, lastNote, reading(1)), 255), reading(2), nil, api.ErrForm)
}

// P14.2: notes are those without a gap, up to the newest one.
func TestGaps(t *testing.T) {
	// The block of the number 7 is not there, or is an old one.
	ring := ringWith(5, 8, readings(8, 10)...)
	expectRead(t, "not written", ring, readings(8, 10), 8, api.OK)
	ring = put(ring, 1, blockOf(reading(6), 6))
	expectRead(t, "older than a gap", ring, readings(8, 10), 8, api.OK)
	expectRead(t, "old", put(ring, 2, blockOf(reading(2), 2)), readings(8, 10), 8, api.OK)
	expectRead(t, "no gap", put(ring, 2, blockOf(reading(7), 7)), readings(6, 10), 6, api.OK)
	// A newer one by itself is all there is.
	expectRead(t, "newer", put(ring, 2, blockOf(reading(2), 12)), []api.Note{reading(2)}, 12, api.OK)
	expectRead(t, "newest", put(ring, 4, blockOf(reading(3), 4294967294)), []api.Note{reading(3)}, 4294967294, api.OK)
	// All blocks are right, and none is next to another one.
	ring = emptyRing(4)
	for place, number := range []int{400, 101, 42, 7} {
		ring = put(ring, place, blockOf(reading(place), number))
	}
	expectRead(t, "all", ring, []api.Note{reading(0)}, 400, api.OK)
	expectAppend(t, "all", ring, reading(5), put(ring, 1, blockOf(reading(5), 401)), api.OK)
	// Nothing is ahead of the number 0, also if the last number's block is there.
	ring = ringWith(3, 0, readings(0, 1)...)
	expectRead(t, "from 0", ring, readings(0, 1), 0, api.OK)
	ring = put(emptyRing(5), 0, blockOf(reading(1), lastNote))
	expectRead(t, "last", ring, readings(1, 1), lastNote, api.OK)
	expectRead(t, "last and 0", put(emptyRing(2), 1, blockOf(reading(1), lastNote)), readings(1, 1), lastNote, api.OK)
}

// P14.2 to P14.4, P14.9: rings of which some blocks are damaged, old, or at wrong places.
func TestRingsAsTheyCome(t *testing.T) {
	lengths, full := map[int]int{}, 0
	for seed := range uint64(20000) {
		r := newWorld(seed)
		ring := r.someRing()
		expectJudged(t, fmt.Sprint(seed), ring, r.someNote(), r.between(0, 64))
		l, newest := judgeRead(ring)
		lengths[len(l)]++
		if newest == lastNote {
			full++
		}
		if t.Failed() {
			t.Fatal(seed)
		}
	}
	for n := range 9 {
		if lengths[n] < 100 {
			t.Error("too few", lengths)
		}
	}
	if full < 100 {
		t.Error("too few", full)
	}
}

// P1, P14.9: any bytes are read, and appended to.
func TestAnyBytes(t *testing.T) {
	for seed := range uint64(3000) {
		r := newWorld(seed)
		ring := make([]byte, 64*r.between(2, 5))
		for i := range ring {
			switch r.IntN(3) {
			case 0:
				ring[i] = byte(r.IntN(256))
			case 1:
				ring[i] = "ARSPD0123456789abcdef -*"[r.IntN(24)]
			default:
				ring[i] = blockOf(r.someNote(), r.someNumber())[i%64]
			}
		}
		expectJudged(t, fmt.Sprint(seed), ring, r.someNote(), r.between(0, 64))
	}
	for _, b := range []byte{0, 1, ' ', '*', '0', 'A', 'R', 127, 128, 254, 255} {
		expectJudged(t, "the same byte", bytes.Repeat([]byte{b}, 192), reading(1), 30)
	}
}

// P14.7: a ring has the last notes that were appended.
func TestLastNotes(t *testing.T) {
	for _, blocks := range []int{2, 3, 4, 5, 7, 16, 100, 255, 256} {
		r := newWorld(uint64(blocks))
		ring := write(t, blocks)
		var l []api.Note
		for i := range 2*blocks + 3 {
			expectRead(t, "last", ring, l[max(0, i-blocks):], max(0, i-blocks), api.OK)
			l = append(l, r.someNote())
			ring = appendAll(t, ring, l[i])
		}
	}
}

// P14.3, P14.4: the number behind the last one is none.
func TestLastNumber(t *testing.T) {
	for _, blocks := range []int{2, 3, 5, 256} {
		ring := appendAll(t, ringWith(blocks, lastNote-2, reading(1), reading(2)), reading(3))
		want := readings(max(1, 4-blocks), 3)
		expectRead(t, "last", ring, want, lastNote+1-len(want), api.OK)
		expectAppend(t, "full", ring, reading(4), nil, api.ErrFull)
		for _, n := range []int{0, 20, 64, 65, -1} {
			expectTear(t, "full", ring, reading(4), n, nil, api.ErrFull)
			expectTear(t, "not valid", ring, note(1, 8, 0, 0), n, nil, api.ErrArg)
		}
		expectAppend(t, "not valid", ring, note(1, 8, 0, 0), nil, api.ErrArg)
		// If the newest note is damaged, its number is free.
		ring[lastNote%blocks*64+30] ^= 1
		expectAppend(t, "damaged", ring, reading(4), put(ring, lastNote%blocks, blockOf(reading(4), lastNote)), api.OK)
		// What is newest need not be next to others.
		expectAppend(t, "alone", ringWith(blocks, lastNote, reading(1)), reading(4), nil, api.ErrFull)
	}
}

// P14.4: the errors of Tear, in their order.
func TestTearErrors(t *testing.T) {
	ring := write(t, 3, readings(1, 5)...)
	for _, n := range append(strangeNumbers(), 63, 64, 65, 66, 128, 191, 192) {
		want, e := []byte(nil), api.ErrRange
		if n >= 0 && n <= 64 {
			want, e = put(ring, 2, blockOf(reading(6), 5)[:n]), api.OK
		}
		expectTear(t, "bytes", ring, reading(6), n, want, e)
		expectTear(t, "not valid", ring, reading(5001), n, nil, api.ErrArg)
		expectTear(t, "not valid", ring, note(7), n, nil, api.ErrArg)
		expectTear(t, "no ring", ring[:64], reading(6), n, nil, api.ErrForm)
		expectTear(t, "no ring", ring[:100], reading(5001), n, nil, api.ErrForm)
	}
}

// powerFails checks all that a ring can be if the power fails while a note is appended to it.
func powerFails(t *testing.T, name string, ring []byte, x api.Note) (old, lost, all int) {
	t.Helper()
	blocks := len(ring) / 64
	had, newest := judgeRead(ring)
	place := (newest + 1) % blocks
	before, block := string(ring[64*place:64*place+64]), blockOf(x, newest+1)
	kept := had
	if len(had) == blocks {
		kept = had[1:]
	}
	for n := range 65 {
		torn, e := file.Tear(ring, x, n)
		if e != api.OK || len(torn) != len(ring) {
			t.Fatal(name, n, len(torn), e)
		}
		want, first, number := kept, newest+1-len(kept), newest+1
		switch string(torn[64*place : 64*place+64]) {
		case before:
			want, first = had, newest+1-len(had)
			old++
		case block:
			want, number = slices.Concat(kept, []api.Note{x}), newest+2
			all++
		default:
			lost++
		}
		expectRead(t, name, torn, want, first, api.OK)
		// The next note is appended as if nothing had been.
		y := reading(n)
		expectAppend(t, name, torn, y, put(torn, number%blocks, blockOf(y, number)), api.OK)
		if number == newest+1 {
			want = slices.Concat(kept, []api.Note{y})
			expectRead(t, name, appendAll(t, torn, y), want, number+1-len(want), api.OK)
		}
	}
	return old, lost, all
}

// P14.8: if the power fails behind any byte, all notes but the oldest one are there.
func TestPowerFails(t *testing.T) {
	olds, losts, alls := 0, 0, 0
	for seed := range uint64(300) {
		r := newWorld(seed)
		blocks := r.between(2, 6)
		ring := write(t, blocks, r.someNotes(r.IntN(3*blocks))...)
		if r.IntN(3) == 0 {
			first := min(r.someNumber(), lastNote-20)
			ring = ringWith(blocks, first, r.someNotes(r.between(1, blocks))...)
		}
		old, lost, all := powerFails(t, fmt.Sprint(seed), ring, r.someNote())
		if t.Failed() {
			t.Fatal(seed)
		}
		olds, losts, alls = olds+old, losts+lost, alls+all
	}
	if min(olds, losts, alls) < 300 {
		t.Error("too few", olds, losts, alls)
	}
}

// P14.8: a note of which only a few bytes are new.
func TestPowerFailsOnLikeNotes(t *testing.T) {
	for _, x := range []api.Note{reading(7), note(4, 1, 2, 3, 4, 5)} {
		for many := range 12 {
			var l []api.Note
			for range many {
				l = append(l, x)
			}
			powerFails(t, "like", write(t, 3, l...), x)
		}
	}
}

// P14.8: power that fails again and again loses no note but the oldest one.
func TestPowerFailsAgain(t *testing.T) {
	for seed := range uint64(200) {
		r := newWorld(seed)
		blocks := r.between(2, 5)
		ring := write(t, blocks)
		var l []api.Note
		for range 40 {
			x := r.someNote()
			for range r.IntN(3) {
				// The check is the old one then, so the block is not right.
				ring, _ = file.Tear(ring, r.someNote(), r.IntN(57))
			}
			first := max(0, len(l)-blocks)
			if got, n, _ := file.Read(ring); !sameNotes(got, l[n:]) || n != first && n != first+1 {
				t.Fatal(seed, got, n, l)
			}
			ring = appendAll(t, ring, x)
			l = append(l, x)
			first = max(0, len(l)-blocks)
			expectRead(t, "behind", ring, l[first:], first, api.OK)
		}
		if t.Failed() {
			t.Fatal(seed)
		}
	}
}

// P14.9: damaged blocks take nothing with them but what is ahead of them.
func TestDamage(t *testing.T) {
	for seed := range uint64(2000) {
		r := newWorld(seed)
		blocks := r.between(2, 12)
		l := r.someNotes(r.between(1, 2*blocks))
		ring := write(t, blocks, l...)
		hurt := r.between(max(0, len(l)-blocks), len(l)-1)
		for range r.between(1, 4) {
			at := hurt%blocks*64 + r.IntN(64)
			ring[at] += byte(r.between(1, 60))
		}
		if number, _, ok := judgeRight(ring, hurt%blocks); ok {
			t.Fatal("still right", seed, number)
		}
		want, first := l[hurt+1:], hurt+1
		if hurt == len(l)-1 {
			want = l[max(0, len(l)-blocks):hurt]
			first = hurt - len(want)
		}
		if len(want) == 0 {
			first = 0
		}
		expectRead(t, "damaged", ring, want, first, api.OK)
		if t.Failed() {
			t.Fatal(seed)
		}
	}
}
