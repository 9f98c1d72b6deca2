package file_test

import (
	"fmt"
	"slices"
	"strings"
	"testing"

	"fenberry/api"
	"fenberry/file"
)

// P14.3: the blocks of the chapter's example and of each kind, byte for byte.
func TestBlocksByHand(t *testing.T) {
	ring := write(t, 3, append(readings(0, 26), note(api.NoteReading, 2, 5, -120))...)
	if want := "R0000001b 2 5 -120**************************************b425f089"; string(ring[:64]) != want {
		t.Errorf("%q instead of %q", ring[:64], want)
	}
	for want, x := range map[string]api.Note{
		"A00000000 1023 0 128 1099511627776**********************5910d41c": note(0, 1023, 0, 128, 1<<40),
		"R00000000 7 96 -5000************************************4be45c93": note(1, 7, 96, -5000),
		"S00000000 7 3 200 9000 4000*****************************b65a0e3f": note(2, 7, 3, 200, 9000, 4000),
		"P00000000 1048576 1048576 1048576 255 1000**************a3a230e7": note(3, 1<<20, 1<<20, 1<<20, 255, 1000),
		"D00000000 3 15 15 1023 0********************************547b5a1a": note(4, 3, 15, 15, 1023, 0),
	} {
		if b := write(t, 2, x); string(b[:64]) != want || string(b[64:]) != strings.Repeat("\xff", 64) {
			t.Errorf("%q instead of %q", b, want)
		}
	}
}

// P14.2, P14.3: notes with numbers at the ends of their ranges, and with all numbers of notes.
func TestBlocksOfAllKinds(t *testing.T) {
	check := func(x api.Note) {
		t.Helper()
		for _, number := range []int{0, 1, 9, 10, 15, 16, 255, 256, 0xabcdef, 0x12345678, 1<<31 - 1, 1 << 31, 1 << 32 / 3, lastNote - 1, lastNote} {
			for _, blocks := range []int{2, 3, 7, 256} {
				ring := emptyRing(blocks)
				if number > 0 {
					ring = ringWith(blocks, number-1, reading(9))
				}
				want := put(ring, number%blocks, blockOf(x, number))
				expectAppend(t, "append", ring, x, want, api.OK)
				expectRead(t, "alone", ringWith(blocks, number, x), []api.Note{x}, number, api.OK)
			}
		}
	}
	for _, k := range kinds() {
		least, most := api.Note{Kind: k.number}, api.Note{Kind: k.number}
		for _, f := range k.fields {
			least.N, most.N = append(least.N, f.lo), append(most.N, f.hi)
		}
		check(least)
		check(most)
		for i := range k.fields {
			x := note(k.number, slices.Clone(least.N)...)
			x.N[i] = most.N[i]
			check(x)
		}
		r := newWorld(uint64(k.number))
		for range 10 {
			check(r.noteOf(k))
		}
	}
}

// P14.2: a block is right only in the form in which it is written, whatever its check is.
func TestBlocksInOtherForms(t *testing.T) {
	good := "R00000002 2 5 -120"
	other := []string{
		"", "R", "r00000002 2 5 -120", "Q00000002 2 5 -120", "B00000002 2 5 -120", " R0000002 2 5 -120", "*00000002 2 5 -120", "\xff00000002 2 5 -120",
		"R0000002 2 5 -120", "R000000002 2 5 -120", "R+0000002 2 5 -120", "R-0000002 2 5 -120", "R 0000002 2 5 -120", "R0x000002 2 5 -120", "R0000_002 2 5 -120", "R0000000g 2 5 -120",
		"R000000022 5 -120", "R00000002  2 5 -120", "R00000002 2  5 -120", "R00000002 2 5 -120 ", "R00000002 2 5 -120  ", "R00000002\t2 5 -120", "R00000002 2\t5 -120", "R00000002 2,5,-120", "R00000002 2 5 -120\n",
		"R00000002 02 5 -120", "R00000002 2 05 -120", "R00000002 2 5 -0120", "R00000002 +2 5 -120", "R00000002 2 5 - 120", "R00000002 2 5 --120", "R00000002 2 5 -", "R00000002 2 5 -0", "R00000002 2 5 00", "R00000002 2 5 0x10", "R00000002 2 5 1_0", "R00000002 2 5 1e1", "R00000002 2 5 1.0", "R00000002 2 5 a",
		"R00000002", "R00000002 ", "R00000002 2", "R00000002 2 5", "R00000002 2 5 ", "R00000002 2 5 -120 1", "R00000002 2 5 -120 0", "R00000002 2 5 -120 1 2",
		"R00000002 8 5 -120", "R00000002 -1 5 -120", "R00000002 2 97 -120", "R00000002 2 5 -5001", "R00000002 2 5 5001", "R00000002 2 5 9223372036854775807", "R00000002 2 5 9223372036854775808", "R00000002 2 5 18446744073709551496", "R00000002 2 5 340282366920938463463374607431",
		"R00000002 2 5 -120*1", "R00000002 2 5 -120* 1", "R00000002 2 5 -120* ", "R00000002 2* 5 -120", "R00000002* 2 5 -120", "R00000002 2 5 *-120", "R00000002 2 5 -120\x00", "R00000002 2 5 -120\xff", "R00000002 2 5 -120#",
		"A00000002 2 5 -120", "A00000002 2 5 7", "S00000002 2 5 -120", "P00000002 2 5 -120", "D00000002 2 5 -120", "S00000002 1 2 3 4", "P00000002 1 2 3 4", "D00000002 1 2 3 4", "A00000002 1 2 3 4 5",
	}
	// What follows the good text is a star less, or something else.
	full := good + strings.Repeat("*", 56-len(good))
	for _, last := range []string{" ", "0", "\x00", "\xff", "+", ")"} {
		other = append(other, full[:55]+last)
	}
	expectRead(t, "good", put(emptyRing(3), 2, blockText(good)), []api.Note{note(1, 2, 5, -120)}, 2, api.OK)
	for _, text := range other {
		ring := put(emptyRing(3), 2, blockText(text))
		expectRead(t, text, ring, nil, 0, api.OK)
		expectRead(t, text, put(ring, 1, blockOf(reading(1), 1)), []api.Note{reading(1)}, 1, api.OK)
		// The next block is that of the number 0, or the other one's.
		expectAppend(t, text, ring, reading(3), put(ring, 0, blockOf(reading(3), 0)), api.OK)
		ring = put(ring, 1, blockOf(reading(1), 1))
		expectAppend(t, text, ring, reading(3), put(ring, 2, blockOf(reading(3), 2)), api.OK)
	}
}

// P14.2: digits are 0 to 9 and a to f, of the number and of the check.
func TestGreatLetters(t *testing.T) {
	x, number := reading(3), 0xabcdef
	block := blockOf(x, number)
	place := number % 4
	expectRead(t, "good", put(emptyRing(4), place, block), []api.Note{x}, number, api.OK)
	text := strings.Replace(block[:56], "abcdef", "ABCDEF", 1)
	expectRead(t, "number", put(emptyRing(4), place, withCheck(text)), nil, 0, api.OK)
	found := false
	for value := range 50 {
		block := blockOf(reading(value), number)
		if check := strings.ToUpper(block[56:]); check != block[56:] {
			found = true
			expectRead(t, "check", put(emptyRing(4), place, block[:56]+check), nil, 0, api.OK)
		}
	}
	if !found {
		t.Error("no check with letters")
	}
}

// P14.2: a block with another check is not right.
func TestOtherChecks(t *testing.T) {
	text := blockOf(reading(1), 2)[:56]
	for _, check := range []string{"00000000", "ffffffff", "********", "        ", "\xff\xff\xff\xff\xff\xff\xff\xff", "00000001"} {
		expectRead(t, check, put(emptyRing(3), 2, text+check), nil, 0, api.OK)
	}
	right := blockOf(reading(1), 2)[56:]
	for _, check := range []string{right[1:] + right[:1], blockOf(reading(2), 2)[56:], blockOf(reading(1), 3)[56:]} {
		expectRead(t, check, put(emptyRing(3), 2, text+check), nil, 0, api.OK)
	}
}

// P14.2, P14.9: with one byte that is another one a block is not right any more; the notes behind it, or those ahead of it, are there.
func TestDamagedBytes(t *testing.T) {
	l := []api.Note{note(0, 1, 2, 3, 4), note(4, 1, 2, 3, 4, 5), reading(-6), note(2, 7, 8, 9, 10, 11)}
	ring := ringWith(4, 0xfe, l...)
	for place := range 4 {
		i := (place - 0xfe%4 + 4) % 4 // the note with this index is damaged
		want, first := l[i+1:], 0xfe+i+1
		if i == 3 {
			want, first = l[:3], 0xfe
		}
		for at := range blockBytes {
			for change := 1; change < 256; change++ {
				hurt := slices.Clone(ring)
				hurt[place*blockBytes+at] ^= byte(change)
				if got, n, e := file.Read(hurt); !sameNotes(got, want) || n != first || e != api.OK {
					t.Fatal(place, at, change, got, n, e)
				}
			}
		}
	}
}

// P14.2: a block at another block's place is not right.
func TestOtherPlaces(t *testing.T) {
	for _, blocks := range []int{2, 3, 4, 10, 255, 256} {
		for _, number := range []int{0, 1, 5, 300, 70000, lastNote - 1, lastNote} {
			for place := range blocks {
				ring := put(emptyRing(blocks), place, blockOf(reading(1), number))
				name := fmt.Sprint(blocks, number, place)
				if place == number%blocks {
					expectRead(t, name, ring, []api.Note{reading(1)}, number, api.OK)
				} else {
					expectRead(t, name, ring, nil, 0, api.OK)
				}
			}
		}
	}
}
