package file_test

import (
	"bytes"
	"fmt"
	"math"
	"math/rand/v2"
	"reflect"
	"regexp"
	"slices"
	"strconv"
	"strings"
	"testing"

	"fenberry/api"
	"fenberry/file"
)

// blockBytes, lastNote and mostNotes are the limits, as the chapter names them.
const (
	blockBytes = 64
	lastNote   = 1<<32 - 1
	mostNotes  = 1024
)

// field is a number of a note, with its range.
type field struct {
	name   string
	lo, hi int
}

// kind is a kind of notes, as the chapter's table has it.
type kind struct {
	number int
	letter string
	fields []field
}

func kinds() []kind {
	return []kind{
		{0, "A", []field{{"Grower", 0, 1023}, {"From", 0, 128}, {"To", 0, 128}, {"Amount", 0, 1 << 40}}},
		{1, "R", []field{{"Sensor", 0, 7}, {"Slot", 0, 96}, {"Value", -5000, 5000}}},
		{2, "S", []field{{"Grower", 0, 1023}, {"Bed", 0, 1023}, {"Day", 0, 1 << 14}, {"Gross", 0, 1 << 27}, {"Tare", 0, 1 << 27}}},
		{3, "P", []field{{"Weight", 0, 1 << 20}, {"Trash", 0, 1 << 20}, {"Rot", 0, 1 << 20}, {"Colour", 0, 255}, {"Firm", 0, 1000}}},
		{4, "D", []field{{"Kind", 0, 3}, {"Vessel", 0, 15}, {"Other", 0, 15}, {"Bed", 0, 1023}, {"Amount", 0, 1 << 40}}},
	}
}

func note(kind int, n ...int) api.Note { return api.Note{Kind: kind, N: n} }

// reading returns a note of a reading with a value.
func reading(value int) api.Note { return note(api.NoteReading, 0, 0, value) }

// readings returns notes of readings with the values from one to another.
func readings(from, to int) []api.Note {
	var l []api.Note
	for value := from; value <= to; value++ {
		l = append(l, reading(value))
	}
	return l
}

// strangeNumbers are beyond limits, or at them.
func strangeNumbers() []int {
	return []int{math.MinInt, math.MinInt + 1, -1 << 32, -5001, -5000, -2, -1, 0, 1, 2, 3, 4, 5, 63, 64, 65, 255, 256, 257, 1023, 1024, 1025, 1 << 32, 1<<40 + 1, math.MaxInt - 1, math.MaxInt}
}

// sameNotes reports whether two lists have the same notes.
func sameNotes(a, b []api.Note) bool {
	return slices.EqualFunc(a, b, func(x, y api.Note) bool { return x.Kind == y.Kind && slices.Equal(x.N, y.N) })
}

// same reports whether two lists are the same, also if one is nil and the other one is empty.
func same[T any](a, b []T) bool { return len(a) == 0 && len(b) == 0 || reflect.DeepEqual(a, b) }

// sameSlips reports whether two lists have the same slips.
func sameSlips(a, b []api.Slip) bool {
	return slices.EqualFunc(a, b, func(x, y api.Slip) bool {
		samples := same(x.Samples, y.Samples)
		x.Samples, y.Samples = nil, nil
		return samples && reflect.DeepEqual(x, y)
	})
}

// withCheck returns the bytes up to the check, and the check behind them.
func withCheck(text string) string {
	check := 1
	for i := range len(text) {
		check = (33*check + int(text[i])) % (1 << 32)
	}
	return text + fmt.Sprintf("%08x", check)
}

// blockText returns a text with stars behind it, and the check.
func blockText(text string) string { return withCheck(text + strings.Repeat("*", 56-len(text))) }

// blockOf returns the block of a note, as the chapter says it.
func blockOf(x api.Note, number int) string {
	text := fmt.Sprintf("%s%08x", kinds()[x.Kind].letter, number)
	for _, n := range x.N {
		text += fmt.Sprintf(" %d", n)
	}
	return blockText(text)
}

// emptyRing returns an empty ring.
func emptyRing(blocks int) []byte { return bytes.Repeat([]byte{255}, blockBytes*blocks) }

// put returns the ring with a block at a place.
func put(ring []byte, place int, block string) []byte {
	ring = slices.Clone(ring)
	copy(ring[blockBytes*place:blockBytes*(place+1)], block)
	return ring
}

// ringWith returns a ring that has notes with the numbers from first on, and nothing else.
func ringWith(blocks, first int, l ...api.Note) []byte {
	ring := emptyRing(blocks)
	for i, x := range l {
		ring = put(ring, (first+i)%blocks, blockOf(x, first+i))
	}
	return ring
}

// write returns an empty ring to which notes were appended.
func write(t *testing.T, blocks int, l ...api.Note) []byte {
	t.Helper()
	ring, e := file.Empty(blocks)
	if e != api.OK {
		t.Fatal("no ring", blocks, e)
	}
	return appendAll(t, ring, l...)
}

// appendAll returns a ring to which notes were appended.
func appendAll(t *testing.T, ring []byte, l ...api.Note) []byte {
	t.Helper()
	for _, x := range l {
		next, e := file.Append(ring, x)
		if e != api.OK {
			t.Fatal("not appended", x, e)
		}
		ring = next
	}
	return ring
}

// show returns the bytes of a small ring, and those at the beginning of a great one.
func show(ring []byte) string { return fmt.Sprintf("%d %.400q", len(ring), ring) }

func expectRead(t *testing.T, name string, ring []byte, want []api.Note, wantFirst int, wantError api.Errno) {
	t.Helper()
	if l, first, e := file.Read(ring); !sameNotes(l, want) || first != wantFirst || e != wantError {
		t.Error(name, show(ring), l, first, e, "instead of", want, wantFirst, wantError)
	}
}

func expectAppend(t *testing.T, name string, ring []byte, x api.Note, want []byte, wantError api.Errno) {
	t.Helper()
	if b, e := file.Append(ring, x); !bytes.Equal(b, want) || e != wantError {
		t.Error(name, show(ring), x, show(b), e, "instead of", show(want), wantError)
	}
}

func expectTear(t *testing.T, name string, ring []byte, x api.Note, n int, want []byte, wantError api.Errno) {
	t.Helper()
	if b, e := file.Tear(ring, x, n); !bytes.Equal(b, want) || e != wantError {
		t.Error(name, show(ring), x, n, show(b), e, "instead of", show(want), wantError)
	}
}

// form is the form of the bytes ahead of the check.
var form = regexp.MustCompile(`^([ARSPD])([0-9a-f]{8})((?: (?:0|-?[1-9][0-9]*))+)\**$`)

// judgeBlock reads a block as the chapter describes it, part by part.
func judgeBlock(block string) (number int, x api.Note, ok bool) {
	parts := form.FindStringSubmatch(block[:56])
	if parts == nil || withCheck(block[:56]) != block {
		return 0, api.Note{}, false
	}
	k := kinds()[strings.Index("ARSPD", parts[1])]
	n, _ := strconv.ParseInt(parts[2], 16, 64)
	x.Kind = k.number
	fields := strings.Fields(parts[3])
	if len(fields) != len(k.fields) {
		return 0, api.Note{}, false
	}
	for i, f := range k.fields {
		n, err := strconv.ParseInt(fields[i], 10, 64)
		if err != nil || int(n) < f.lo || int(n) > f.hi {
			return 0, api.Note{}, false
		}
		x.N = append(x.N, int(n))
	}
	return int(n), x, true
}

// judgeRight returns the note of the right block at a place.
func judgeRight(ring []byte, place int) (number int, x api.Note, ok bool) {
	number, x, ok = judgeBlock(string(ring[blockBytes*place : blockBytes*(place+1)]))
	return number, x, ok && number%(len(ring)/blockBytes) == place
}

// judgeRead returns the notes of a ring and the number of the newest one, -1 if there is none.
func judgeRead(ring []byte) (l []api.Note, newest int) {
	blocks := len(ring) / blockBytes
	newest = -1
	for place := range blocks {
		if number, _, ok := judgeRight(ring, place); ok && number > newest {
			newest = number
		}
	}
	for number := newest; number >= 0; number-- {
		there, x, ok := judgeRight(ring, number%blocks)
		if !ok || there != number {
			break
		}
		l = append([]api.Note{x}, l...)
	}
	return l, newest
}

// expectJudged checks what Read, Append and Tear do with the bytes of a ring.
func expectJudged(t *testing.T, name string, ring []byte, x api.Note, n int) {
	t.Helper()
	l, newest := judgeRead(ring)
	expectRead(t, name, ring, l, newest+1-len(l), api.OK)
	if newest == lastNote {
		expectAppend(t, name, ring, x, nil, api.ErrFull)
		expectTear(t, name, ring, x, n, nil, api.ErrFull)
		return
	}
	place, block := (newest+1)%(len(ring)/blockBytes), blockOf(x, newest+1)
	expectAppend(t, name, ring, x, put(ring, place, block), api.OK)
	expectTear(t, name, ring, x, n, put(ring, place, block[:n]), api.OK)
}

// world makes valid arguments; the same ones for the same seed.
type world struct{ *rand.Rand }

func newWorld(seed uint64) world { return world{rand.New(rand.NewPCG(seed, 67))} }

func (r world) between(lo, hi int) int { return lo + r.IntN(hi-lo+1) }

// inside returns a number of a range, of which some are at the ends.
func (r world) inside(f field) int {
	switch r.IntN(8) {
	case 0:
		return f.lo
	case 1:
		return f.hi
	case 2:
		return min(f.hi, f.lo+r.IntN(12))
	}
	return r.between(f.lo, f.hi)
}

func (r world) noteOf(k kind) api.Note {
	x := api.Note{Kind: k.number}
	for _, f := range k.fields {
		x.N = append(x.N, r.inside(f))
	}
	return x
}

func (r world) someNote() api.Note { return r.noteOf(kinds()[r.IntN(5)]) }

func (r world) someNotes(many int) []api.Note {
	var l []api.Note
	for range many {
		l = append(l, r.someNote())
	}
	return l
}

// someNumber returns a number of a note, often near the ends.
func (r world) someNumber() int {
	return []int{r.IntN(40), lastNote - r.IntN(40), 1<<31 - 20 + r.IntN(40), r.IntN(lastNote + 1)}[r.IntN(4)]
}

// someRing returns a ring of which some blocks are right, some are damaged, some are old and some were never written.
func (r world) someRing() []byte {
	blocks := r.between(2, 9)
	ring := emptyRing(blocks)
	first := r.someNumber()
	for i := range r.IntN(3 * blocks) {
		number := first + i
		if r.IntN(10) == 0 {
			number -= blocks * r.IntN(3)
		}
		if number >= 0 && number <= lastNote {
			ring = put(ring, number%blocks, blockOf(r.someNote(), number))
		}
	}
	for range r.IntN(3) {
		ring[r.IntN(len(ring))] ^= byte(1 << r.IntN(8))
	}
	if r.IntN(6) == 0 { // a block at a place of another one
		ring = put(ring, r.IntN(blocks), string(ring[:blockBytes]))
	}
	return ring
}

// season is what is noted in a season.
type season struct {
	asks     []api.Ask
	readings []api.Reading
	slips    []api.Slip
	events   []api.DrumEvent
}

func (s season) notes() ([]api.Note, api.Errno) {
	return file.Notes(s.asks, s.readings, s.slips, s.events)
}

// exampleSeason returns one of each kind, and the slip of the chapter's example.
func exampleSeason() season {
	return season{
		asks:     []api.Ask{{Grower: 1, From: 2, To: 3, Amount: 4}},
		readings: []api.Reading{{Sensor: 5, Slot: 6, Value: -7}},
		slips:    []api.Slip{{Grower: 7, Bed: 3, Day: 200, Gross: 9000, Tare: 4000, Samples: []api.Sample{{Weight: 500, Trash: 5, Rot: 10, Colour: 80, Firm: 600}}}},
		events:   []api.DrumEvent{{Kind: 1, Vessel: 8, Other: 9, Bed: 10, Amount: 11}},
	}
}

// add adds what a note says to a season; a sample needs a slip.
func (s *season) add(x api.Note) {
	n := x.N
	switch x.Kind {
	case 0:
		s.asks = append(s.asks, api.Ask{Grower: n[0], From: n[1], To: n[2], Amount: n[3]})
	case 1:
		s.readings = append(s.readings, api.Reading{Sensor: n[0], Slot: n[1], Value: n[2]})
	case 2:
		s.slips = append(s.slips, api.Slip{Grower: n[0], Bed: n[1], Day: n[2], Gross: n[3], Tare: n[4]})
	case 3:
		last := &s.slips[len(s.slips)-1]
		last.Samples = append(last.Samples, api.Sample{Weight: n[0], Trash: n[1], Rot: n[2], Colour: n[3], Firm: n[4]})
	case 4:
		s.events = append(s.events, api.DrumEvent{Kind: n[0], Vessel: n[1], Other: n[2], Bed: n[3], Amount: n[4]})
	}
}

// order returns the notes in the order in which Notes has them.
func order(l []api.Note) []api.Note {
	var sorted []api.Note
	for _, kinds := range [][]int{{0}, {1}, {2, 3}, {4}} {
		for _, x := range l {
			if slices.Contains(kinds, x.Kind) {
				sorted = append(sorted, x)
			}
		}
	}
	return sorted
}

// expectSeason checks that notes give a season.
func expectSeason(t *testing.T, name string, l []api.Note, want season) {
	t.Helper()
	asks, e1 := file.Asks(l)
	readings, e2 := file.Readings(l)
	slips, e3 := file.Slips(l)
	events, e4 := file.Drums(l)
	if e1 != api.OK || e2 != api.OK || e3 != api.OK || e4 != api.OK {
		t.Error(name, l, e1, e2, e3, e4)
	}
	if !same(asks, want.asks) || !same(readings, want.readings) || !sameSlips(slips, want.slips) || !same(events, want.events) {
		t.Error(name, l, asks, readings, slips, events, "instead of", want)
	}
}

// expectError checks that all functions return an error for notes, and nothing else.
func expectError(t *testing.T, name string, l []api.Note, want api.Errno) {
	t.Helper()
	asks, e1 := file.Asks(l)
	readings, e2 := file.Readings(l)
	slips, e3 := file.Slips(l)
	events, e4 := file.Drums(l)
	if e1 != want || e2 != want || e3 != want || e4 != want || len(asks)+len(readings)+len(slips)+len(events) > 0 {
		t.Error(name, len(l), e1, e2, e3, e4, "instead of", want, asks, readings, slips, events)
	}
}
