package plant_test

import (
	"math"
	"math/big"
	"math/rand/v2"
	"slices"
	"testing"

	"fenberry/api"
	"fenberry/plant"
)

func span(lo, hi int) api.Span { return api.Span{Lo: lo, Hi: hi} }

// all returns an outlet that gets so many thousandths of each of the four numbers.
func all(to, n int) api.Outlet { return api.Outlet{To: to, Mass: n, Sugar: n, Acid: n, Colour: n} }

func machine(outlets ...api.Outlet) api.Machine { return api.Machine{Outlets: outlets} }

// stream returns one of which all four numbers are the same.
func stream(n int) api.Stream { return api.Stream{Mass: n, Sugar: n, Acid: n, Colour: n} }

// examplePlant returns the plant of the chapter's examples.
func examplePlant() []api.Machine {
	return []api.Machine{
		machine(api.Outlet{To: 1, Mass: 950, Sugar: 980, Acid: 980, Colour: 990}, api.Outlet{To: -1}),
		machine(api.Outlet{To: 2, Mass: 800, Sugar: 900, Acid: 850, Colour: 950}, api.Outlet{To: -2}),
		machine(api.Outlet{To: -3, Mass: 300, Sugar: 1000, Acid: 1000, Colour: 1000}, api.Outlet{To: -4}),
	}
}

func exampleStream() api.Stream {
	return api.Stream{Mass: 100000, Sugar: 4500, Acid: 2000, Colour: 7000}
}

// exampleTanks returns the tanks of the chapter's examples.
func exampleTanks() []api.Tank {
	return []api.Tank{
		{Units: 10, Sugar: 5000, Acid: 200, Colour: 700, Price: 10},
		{Units: 8, Sugar: 5200, Acid: 260, Colour: 500, Price: 7},
		{Units: 5, Sugar: 4800, Acid: 120, Colour: 900, Price: 15},
	}
}

func exampleRecipe() api.Recipe {
	return api.Recipe{Units: 10, Sugar: span(4900, 5100), Acid: span(190, 220), Colour: span(600, 800)}
}

// anyJuice returns a recipe that asks for nothing but units.
func anyJuice(units int) api.Recipe {
	whatever := span(0, 10000)
	return api.Recipe{Units: units, Sugar: whatever, Acid: whatever, Colour: whatever}
}

// exampleLots returns the lots of the chapter's examples.
func exampleLots() []api.Freeze {
	return []api.Freeze{{Ready: 0, Due: 5, Mass: 300}, {Ready: 0, Due: 2, Mass: 200}, {Ready: 4, Due: 7, Mass: 250}}
}

func clonePlant(m []api.Machine) []api.Machine {
	l := slices.Clone(m)
	for i := range l {
		l[i].Outlets = slices.Clone(l[i].Outlets)
	}
	return l
}

// strangeNumbers are beyond limits, or at them.
func strangeNumbers() []int {
	return []int{math.MinInt, math.MinInt + 1, -1001, -1000, -18, -17, -16, -15, -2, -1, 0, 1, 2, 3, 5, 6, 12, 13, 16, 17, 60, 61, 500, 501, 999, 1000, 1001, 10000, 10001, 1 << 20, 1<<20 + 1, 1 << 40, 1<<40 + 1, 1 << 44, 1<<44 + 1, math.MaxInt - 1, math.MaxInt}
}

// inBins returns 16 bins of which some have something in them.
func inBins(some map[int]api.Stream) []api.Stream {
	l := make([]api.Stream, 16)
	for bin, s := range some {
		l[bin] = s
	}
	return l
}

func expectRun(t *testing.T, name string, m []api.Machine, in api.Stream, want []api.Stream, wantError api.Errno) {
	t.Helper()
	if l, e := plant.Run(m, in); !slices.Equal(l, want) || e != wantError {
		t.Error(name, m, in, l, e, "instead of", want, wantError)
	}
}

func expectEvaporate(t *testing.T, name string, s api.Stream, strength, want int, wantError api.Errno) {
	t.Helper()
	if n, e := plant.Evaporate(s, strength); n != want || e != wantError {
		t.Error(name, s, strength, n, e, "instead of", want, wantError)
	}
}

func expectBlend(t *testing.T, name string, l []api.Tank, r api.Recipe, want []int, wantCost int, wantError api.Errno) {
	t.Helper()
	if units, cost, e := plant.Blend(l, r); !slices.Equal(units, want) || cost != wantCost || e != wantError {
		t.Error(name, l, r, units, cost, e, "instead of", want, wantCost, wantError)
	}
}

func expectFrozen(t *testing.T, name string, l []api.Freeze, rate int, want []int, wantError api.Errno) {
	t.Helper()
	if done, e := plant.Frozen(l, rate); !slices.Equal(done, want) || e != wantError {
		t.Error(name, l, rate, done, e, "instead of", want, wantError)
	}
}

func expectRate(t *testing.T, name string, l []api.Freeze, want int, wantError api.Errno) {
	t.Helper()
	if n, e := plant.Rate(l); n != want || e != wantError {
		t.Error(name, l, n, e, "instead of", want, wantError)
	}
}

// quantity is one of the four numbers of a stream and of an outlet.
type quantity struct {
	in func(s *api.Stream) *int
	of func(o *api.Outlet) *int
}

func quantities() []quantity {
	return []quantity{
		{func(s *api.Stream) *int { return &s.Mass }, func(o *api.Outlet) *int { return &o.Mass }},
		{func(s *api.Stream) *int { return &s.Sugar }, func(o *api.Outlet) *int { return &o.Sugar }},
		{func(s *api.Stream) *int { return &s.Acid }, func(o *api.Outlet) *int { return &o.Acid }},
		{func(s *api.Stream) *int { return &s.Colour }, func(o *api.Outlet) *int { return &o.Colour }},
	}
}

// judgeRun follows the four numbers one by one, with numbers of any size.
func judgeRun(m []api.Machine, in api.Stream) []api.Stream {
	bins := make([]api.Stream, 16)
	for _, q := range quantities() {
		for place, n := range follow(m, *q.in(&in), q.of) {
			if place < 0 {
				*q.in(&bins[-1-place]) = int(n.Int64())
			}
		}
	}
	return bins
}

// follow returns how much of a number has come to each place: a machine, or below 0 a bin.
func follow(m []api.Machine, amount int, of func(o *api.Outlet) *int) map[int]*big.Int {
	came := map[int]*big.Int{}
	add := func(to int, n *big.Int) {
		if came[to] == nil {
			came[to] = new(big.Int)
		}
		came[to].Add(came[to], n)
	}
	if len(m) == 0 {
		add(-1, big.NewInt(int64(amount)))
		return came
	}
	add(0, big.NewInt(int64(amount)))
	for i, x := range m {
		if came[i] == nil {
			continue
		}
		given := new(big.Int)
		for k, o := range x.Outlets {
			n := new(big.Int).Sub(came[i], given)
			if k < len(x.Outlets)-1 {
				n.Mul(came[i], big.NewInt(int64(*of(&o))))
				n.Div(n, big.NewInt(1000))
				given.Add(given, n)
			}
			add(o.To, n)
		}
	}
	return came
}

// isStrong tells whether the juice without so much water has so many ten-thousandths of sugar.
func isStrong(s api.Stream, strength, water int) bool {
	sugar := new(big.Int).Mul(big.NewInt(int64(s.Sugar)), big.NewInt(10000))
	asked := new(big.Int).Mul(big.NewInt(int64(s.Mass-water)), big.NewInt(int64(strength)))
	return sugar.Cmp(asked) >= 0
}

// judgeEvaporate takes out gram by gram.
func judgeEvaporate(s api.Stream, strength int) (int, api.Errno) {
	if s.Sugar == 0 {
		return 0, api.ErrNone
	}
	water := 0
	for !isStrong(s, strength, water) {
		water++
	}
	return water, api.OK
}

// isBlend tells whether so many units of each tank are what the recipe says.
func isBlend(l []api.Tank, r api.Recipe, units []int) bool {
	var n, sugar, acid, colour int
	for i, t := range l {
		if units[i] < 0 || units[i] > t.Units {
			return false
		}
		n += units[i]
		sugar += units[i] * t.Sugar
		acid += units[i] * t.Acid
		colour += units[i] * t.Colour
	}
	isIn := func(sum int, s api.Span) bool { return sum >= n*s.Lo && sum <= n*s.Hi }
	return n == r.Units && isIn(sugar, r.Sugar) && isIn(acid, r.Acid) && isIn(colour, r.Colour)
}

func costOf(l []api.Tank, units []int) int {
	n := 0
	for i, t := range l {
		n += units[i] * t.Price
	}
	return n
}

// judgeBlend counts through all units of all tanks, as an odometer does.
func judgeBlend(l []api.Tank, r api.Recipe) (best []int, cost int, e api.Errno) {
	e = api.ErrNone
	units := make([]int, len(l))
	for {
		if c := costOf(l, units); isBlend(l, r, units) && (e == api.ErrNone || c < cost) {
			best, cost, e = slices.Clone(units), c, api.OK
		}
		i := len(l) - 1
		for i >= 0 && units[i] == l[i].Units {
			units[i] = 0
			i--
		}
		if i < 0 {
			return best, cost, e
		}
		units[i]++
	}
}

// firstDue returns the lot that is taken in an hour, or -1.
func firstDue(l []api.Freeze, left []int, hour int) int {
	first := -1
	for i, x := range l {
		if left[i] > 0 && x.Ready <= hour && (first < 0 || x.Due < l[first].Due) {
			first = i
		}
	}
	return first
}

// judgeFrozen freezes gram by gram.
func judgeFrozen(l []api.Freeze, rate int) []int {
	left, done := make([]int, len(l)), make([]int, len(l))
	for i, x := range l {
		left[i], done[i] = x.Mass, 501
		if x.Mass == 0 {
			done[i] = x.Ready
		}
	}
	for hour := range 500 {
		for range rate {
			i := firstDue(l, left, hour)
			if i < 0 {
				break
			}
			left[i]--
			if left[i] == 0 {
				done[i] = hour + 1
			}
		}
	}
	return done
}

// judgeByLots gives each lot, the one that is due first ahead of all others, the first hours in which there is room.
func judgeByLots(l []api.Freeze, rate int) []int {
	done := make([]int, len(l))
	room := slices.Repeat([]int{rate}, 500)
	for due := range 501 {
		for i, x := range l {
			if x.Due != due {
				continue
			}
			left := x.Mass
			hour := x.Ready
			for left > 0 && hour < 500 {
				n := min(left, room[hour])
				left -= n
				room[hour] -= n
				hour++
			}
			done[i] = hour
			if left > 0 {
				done[i] = 501
			}
		}
	}
	return done
}

// isInTime tells whether no lot is frozen behind its hour.
func isInTime(l []api.Freeze, done []int) bool {
	for i, x := range l {
		if done[i] > x.Due {
			return false
		}
	}
	return true
}

// judgeRate tries all rates; the lots are so few that the rate most is enough for them if any one is.
func judgeRate(l []api.Freeze, most int) (int, api.Errno) {
	for rate := 1; rate <= most; rate++ {
		if isInTime(l, judgeFrozen(l, rate)) {
			return rate, api.OK
		}
	}
	return 0, api.ErrNone
}

// sizes bounds what is made: machines, what runs through them, tanks, their units, strengths and prices, lots, their hours and grams.
type sizes struct{ machines, amount, tanks, units, strong, price, lots, hours, mass int }

// few has so small numbers that all ways can be gone through.
func few() sizes {
	return sizes{machines: 4, amount: 20, tanks: 4, units: 4, strong: 20, price: 4, lots: 5, hours: 9, mass: 12}
}

// plain has numbers as they are in an autumn.
func plain() sizes {
	return sizes{machines: 8, amount: 1 << 24, tanks: 4, units: 6, strong: 9000, price: 500, lots: 10, hours: 60, mass: 5000}
}

// great has numbers up to the limits.
func great() sizes {
	return sizes{machines: api.MaxMachines, amount: api.MaxStream, tanks: api.MaxTanks, units: api.MaxUnits, strong: api.MaxStrong, price: api.MaxTankCost, lots: api.MaxFreezes, hours: api.MaxFreezing, mass: api.MaxStream}
}

// world makes valid plants, streams, tanks, recipes and lots; the same ones for the same seed.
type world struct {
	*rand.Rand
	sizes
}

func newWorld(seed uint64, s sizes) world { return world{rand.New(rand.NewPCG(seed, 43)), s} }

func (r world) between(lo, hi int) int { return lo + r.IntN(hi-lo+1) }

// someTo returns where an outlet of a machine leads; many lead to a machine.
func (r world) someTo(index, machines int) int {
	if index+1 < machines && r.IntN(3) > 0 {
		return r.between(index+1, machines-1)
	}
	return -r.between(1, api.MaxBins)
}

// someMachine returns a machine of which the outlets often get all of something together.
func (r world) someMachine(index, machines int) api.Machine {
	x := api.Machine{}
	left := [4]int{api.Whole, api.Whole, api.Whole, api.Whole}
	for range r.between(0, api.MaxOutlets-1) {
		o := api.Outlet{To: r.someTo(index, machines)}
		for i, q := range quantities() {
			n := r.between(0, left[i])
			if r.IntN(8) == 0 {
				n = left[i]
			}
			left[i] -= n
			*q.of(&o) = n
		}
		x.Outlets = append(x.Outlets, o)
	}
	x.Outlets = append(x.Outlets, all(r.someTo(index, machines), r.between(0, api.Whole)))
	return x
}

func (r world) somePlant() []api.Machine {
	var m []api.Machine
	n := r.between(0, r.machines)
	for i := range n {
		m = append(m, r.someMachine(i, n))
	}
	return m
}

func (r world) someStream() api.Stream {
	return api.Stream{Mass: r.between(0, r.amount), Sugar: r.between(0, r.amount), Acid: r.between(0, r.amount), Colour: r.between(0, r.amount)}
}

// someJuice returns a stream that has no more sugar than grams.
func (r world) someJuice() api.Stream {
	s := r.someStream()
	s.Sugar = r.between(0, s.Mass)
	if r.IntN(3) == 0 {
		s.Sugar = r.between(0, s.Mass/20)
	}
	return s
}

func (r world) someTanks() []api.Tank {
	var l []api.Tank
	for range r.between(0, r.tanks) {
		l = append(l, api.Tank{Units: r.between(0, r.units), Sugar: r.between(0, r.strong), Acid: r.between(0, r.strong), Colour: r.between(0, r.strong), Price: r.between(0, r.price)})
	}
	return l
}

// around returns a span around a number within 0 to MaxStrong.
func (r world) around(n int) api.Span {
	wide := []int{0, 1, r.strong / 20, r.strong / 5}[r.IntN(4)]
	return span(max(0, n-r.between(0, wide)), min(api.MaxStrong, n+r.between(0, wide)))
}

// someRecipe returns a recipe that is about what some units of the tanks make.
func (r world) someRecipe(l []api.Tank) api.Recipe {
	var n, sugar, acid, colour int
	for _, t := range l {
		units := r.between(0, t.Units)
		n += units
		sugar += units * t.Sugar
		acid += units * t.Acid
		colour += units * t.Colour
	}
	if n == 0 {
		return anyJuice(r.between(1, 9))
	}
	s := api.Recipe{Units: n, Sugar: r.around(sugar / n), Acid: r.around(acid / n), Colour: r.around(colour / n)}
	if r.IntN(3) == 0 {
		s.Sugar, s.Acid = span(0, api.MaxStrong), span(0, api.MaxStrong)
	}
	return s
}

// someLots returns lots of which none has grams but no hour.
func (r world) someLots() []api.Freeze {
	var l []api.Freeze
	for range r.between(0, r.lots) {
		x := api.Freeze{Ready: r.between(0, r.hours-1), Mass: r.between(0, r.mass)}
		x.Due = r.between(x.Ready+1, r.hours)
		if r.IntN(6) == 0 {
			x.Mass = 0
			x.Due = r.between(x.Ready, r.hours)
		}
		l = append(l, x)
	}
	return l
}

// someRate returns a rate about which some of the lots are late.
func (r world) someRate() int {
	return r.between(1, max(1, r.mass*r.lots/r.hours))
}

// eachWorld calls do with worlds of each size.
func eachWorld(do func(seed uint64, r world)) {
	for seed := range uint64(300) {
		do(seed, newWorld(seed, few()))
		do(seed, newWorld(seed, plain()))
		do(seed, newWorld(seed, great()))
	}
}

// eachSmall calls do with worlds in which all ways can be gone through.
func eachSmall(do func(seed uint64, r world)) {
	for seed := range uint64(1000) {
		do(seed, newWorld(seed, few()))
	}
}
