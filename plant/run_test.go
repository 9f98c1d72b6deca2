package plant_test

import (
	"testing"

	"fenberry/api"
	"fenberry/plant"
)

// P9.2: the chapter's example.
func TestRunExample(t *testing.T) {
	expectRun(t, "example", examplePlant(), exampleStream(), inBins(map[int]api.Stream{
		0: {Mass: 5000, Sugar: 90, Acid: 40, Colour: 70},
		1: {Mass: 19000, Sugar: 441, Acid: 294, Colour: 347},
		2: {Mass: 22800, Sugar: 3969, Acid: 1666, Colour: 6583},
		3: {Mass: 53200},
	}), api.OK)
}

// P9.2: where a stream goes.
func TestRunPlaces(t *testing.T) {
	in := stream(1000)
	for _, c := range []struct {
		name string
		m    []api.Machine
		want map[int]int
	}{
		{"no machine: the bin 0", nil, map[int]int{0: 1000}},
		{"one outlet gets all, whatever it says", []api.Machine{machine(all(-5, 0))}, map[int]int{4: 1000}},
		{"one outlet gets all, whatever it says", []api.Machine{machine(all(-5, 1000))}, map[int]int{4: 1000}},
		{"the first bin", []api.Machine{machine(all(-1, 7))}, map[int]int{0: 1000}},
		{"the last bin", []api.Machine{machine(all(-16, 7))}, map[int]int{15: 1000}},
		{"four outlets", []api.Machine{machine(all(-1, 100), all(-2, 200), all(-3, 300), all(-4, 0))}, map[int]int{0: 100, 1: 200, 2: 300, 3: 400}},
		{"the last one's thousandths are not looked at", []api.Machine{machine(all(-1, 100), all(-2, 200), all(-3, 300), all(-4, 1000))}, map[int]int{0: 100, 1: 200, 2: 300, 3: 400}},
		{"several outlets into one bin", []api.Machine{machine(all(-3, 100), all(-1, 200), all(-3, 300), all(-3, 0))}, map[int]int{0: 200, 2: 800}},
		{"nothing is left for the last outlet", []api.Machine{machine(all(-1, 1000), all(-2, 1))}, map[int]int{0: 1000}},
		{"nothing for the first one", []api.Machine{machine(all(-1, 0), all(-2, 0))}, map[int]int{1: 1000}},
		{"past a machine", []api.Machine{machine(all(2, 400), all(-1, 0)), machine(all(-2, 0)), machine(all(-3, 0))}, map[int]int{0: 600, 2: 400}},
		{"a machine into which two lead", []api.Machine{machine(all(2, 500), all(1, 0)), machine(all(2, 500), all(-1, 0)), machine(all(-2, 100), all(-3, 0))}, map[int]int{0: 250, 1: 75, 2: 675}},
		{"two outlets into one machine", []api.Machine{machine(all(1, 10), all(1, 0)), machine(all(-2, 100), all(-3, 0))}, map[int]int{1: 100, 2: 900}},
		{"machines that nothing leads to", []api.Machine{machine(all(-1, 0)), machine(all(-2, 500), all(-3, 0)), machine(all(-4, 0))}, map[int]int{0: 1000}},
	} {
		want := map[int]api.Stream{}
		for bin, n := range c.want {
			want[bin] = stream(n)
		}
		expectRun(t, c.name, c.m, in, inBins(want), api.OK)
	}
}

// P9.2: what an outlet gets is rounded down, of all that comes into the machine; the last one gets the rest.
func TestRunRounds(t *testing.T) {
	half, thirds, lost := []api.Machine{machine(all(-1, 500), all(-2, 0))}, []api.Machine{machine(all(-1, 333), all(-2, 333), all(-3, 0))}, []api.Machine{machine(all(-1, 999), all(-2, 1), all(-3, 0))}
	for _, c := range []struct {
		name        string
		m           []api.Machine
		in, a, b, c int
	}{
		{"half", half, 0, 0, 0, 0}, {"half", half, 1, 0, 1, 0}, {"half", half, 2, 1, 1, 0}, {"half", half, 3, 1, 2, 0},
		{"thirds", thirds, 1, 0, 0, 1}, {"thirds", thirds, 3, 0, 0, 3}, {"thirds", thirds, 4, 1, 1, 2}, {"thirds", thirds, 10, 3, 3, 4},
		// What is lost by rounding is the last outlet's, also if the other ones get all thousandths.
		{"lost", lost, 1, 0, 0, 1}, {"lost", lost, 2, 1, 0, 1}, {"lost", lost, 999, 998, 0, 1}, {"lost", lost, 1000, 999, 1, 0}, {"lost", lost, 1001, 999, 1, 1},
		{"lost", lost, 1 << 40, 1098412116148, 1099511627, 1}, {"half", half, 1 << 40, 1 << 39, 1 << 39, 0},
	} {
		expectRun(t, c.name, c.m, stream(c.in), inBins(map[int]api.Stream{0: stream(c.a), 1: stream(c.b), 2: stream(c.c)}), api.OK)
	}
	// One gram comes on each of two ways: half of the two is one, half of each one would be none.
	m := []api.Machine{machine(all(1, 500), all(1, 0)), machine(all(-1, 500), all(-2, 0))}
	expectRun(t, "of all that comes", m, stream(2), inBins(map[int]api.Stream{0: stream(1), 1: stream(1)}), api.OK)
}

// P9.2: each of the four numbers is parted by its own thousandths; there may be more sugar than grams.
func TestRunEachNumber(t *testing.T) {
	m := []api.Machine{machine(api.Outlet{To: -1, Mass: 100, Sugar: 200, Acid: 300, Colour: 400}, api.Outlet{To: -2, Mass: 900, Sugar: 100, Acid: 0, Colour: 600}, api.Outlet{To: -3})}
	expectRun(t, "each", m, api.Stream{Mass: 10, Sugar: 100, Acid: 1000, Colour: 1 << 40}, inBins(map[int]api.Stream{
		0: {Mass: 1, Sugar: 20, Acid: 300, Colour: 439804651110},
		1: {Mass: 9, Sugar: 10, Acid: 0, Colour: 659706976665},
		2: {Mass: 0, Sugar: 70, Acid: 700, Colour: 1},
	}), api.OK)
	for _, q := range quantities() {
		in := api.Stream{}
		*q.in(&in) = 1000
		o := api.Outlet{To: -7}
		*q.of(&o) = 250
		few, more := api.Stream{}, api.Stream{}
		*q.in(&few), *q.in(&more) = 250, 750
		expectRun(t, "one alone", []api.Machine{machine(o, all(-8, 0))}, in, inBins(map[int]api.Stream{6: few, 7: more}), api.OK)
	}
}

// P9.2: a chain of as many machines as there can be.
func TestRunLongChain(t *testing.T) {
	var m []api.Machine
	want := map[int]api.Stream{}
	for i := range 12 {
		m = append(m, machine(all(-1-i, 500), all(i+1, 0)))
		want[i] = stream(1 << (39 - i))
	}
	m[11].Outlets[1].To = -16
	want[15] = stream(1 << 28)
	expectRun(t, "chain", m, stream(1<<40), inBins(want), api.OK)
}

// P9.2: as by following each number by itself.
func TestRunIsJudge(t *testing.T) {
	several := 0
	eachWorld(func(seed uint64, r world) {
		for range 5 {
			m, in := r.somePlant(), r.someStream()
			expectRun(t, "judge", m, in, judgeRun(m, in), api.OK)
			if full(plantRun(m, in)) > 3 {
				several++
			}
		}
		if t.Failed() {
			t.Fatal(seed)
		}
	})
	if several < 500 {
		t.Error("too few", several)
	}
}

// plantRun returns what plant.Run says.
func plantRun(m []api.Machine, in api.Stream) []api.Stream {
	l, _ := plant.Run(m, in)
	return l
}

// full returns how many bins have grams in them.
func full(l []api.Stream) int {
	n := 0
	for _, s := range l {
		if s.Mass > 0 {
			n++
		}
	}
	return n
}
