package plant_test

import (
	"testing"

	"fenberry/api"
	"fenberry/plant"
)

// P9.3: the chapter's example.
func TestEvaporateExample(t *testing.T) {
	expectEvaporate(t, "example", api.Stream{Mass: 76000, Sugar: 3969}, 5000, 68062, api.OK)
	expectEvaporate(t, "acid and colour make no difference", api.Stream{Mass: 76000, Sugar: 3969, Acid: 1 << 40, Colour: 1 << 40}, 5000, 68062, api.OK)
}

// P9.3: juice that is strong already, just strong enough, and too weak by a little.
func TestEvaporateEdges(t *testing.T) {
	for _, c := range []struct{ mass, sugar, strength, want int }{
		{100, 50, 1, 0}, {100, 50, 4999, 0}, {100, 50, 5000, 0}, {100, 50, 5001, 1}, {100, 50, 9999, 50}, {100, 50, 10000, 50},
		{100, 100, 10000, 0}, {100, 99, 10000, 1}, {100, 1, 10000, 99}, {100, 1, 9999, 99}, {100, 1, 5001, 99}, {100, 1, 5000, 98}, {100, 1, 101, 1}, {100, 1, 100, 0},
		{1, 1, 1, 0}, {1, 1, 10000, 0}, {10000, 1, 1, 0}, {10001, 1, 1, 1}, {20000, 1, 1, 10000}, {10, 3, 7000, 6}, {10, 3, 3000, 0}, {10, 3, 3001, 1}, {10, 3, 3333, 1}, {10, 3, 3334, 2},
		{1 << 40, 1, 10000, 1<<40 - 1}, {1 << 40, 1, 1, 1<<40 - 10000}, {1 << 40, 1 << 40, 10000, 0}, {1 << 40, 1<<40 - 1, 10000, 1}, {1 << 40, 1 << 39, 5000, 0}, {1 << 40, 1 << 39, 5001, 219858354},
	} {
		expectEvaporate(t, "edge", api.Stream{Mass: c.mass, Sugar: c.sugar}, c.strength, c.want, api.OK)
	}
}

// P9.3: ErrNone if there is no sugar, at each strength that there can be.
func TestEvaporateNoSugar(t *testing.T) {
	for _, strength := range []int{1, 5000, 10000} {
		for _, mass := range []int{0, 1, 1 << 40} {
			expectEvaporate(t, "no sugar", api.Stream{Mass: mass, Acid: 5, Colour: 7}, strength, 0, api.ErrNone)
		}
	}
}

// P9.3: as by taking out gram by gram.
func TestEvaporateIsJudge(t *testing.T) {
	some := 0
	eachSmall(func(seed uint64, r world) {
		s := r.someJuice()
		for range 10 {
			strength := r.between(1, 10000)
			want, wantError := judgeEvaporate(s, strength)
			expectEvaporate(t, "judge", s, strength, want, wantError)
			if want > 0 {
				some++
			}
		}
	})
	if some < 1000 {
		t.Error("too few", some)
	}
}

// P9.8: without that water the juice is strong, with a gram more of it it is not, and there is so much water in it.
func TestConcentrated(t *testing.T) {
	some, none := 0, 0
	eachWorld(func(seed uint64, r world) {
		s := r.someJuice()
		s.Sugar = max(s.Sugar, min(1, s.Mass))
		strength := r.between(1, 10000)
		n, e := plant.Evaporate(s, strength)
		if s.Sugar == 0 {
			return
		}
		if e != api.OK || n < 0 || n > s.Mass-s.Sugar || !isStrong(s, strength, n) || n > 0 && isStrong(s, strength, n-1) {
			t.Fatal(seed, s, strength, n, e)
		}
		if n > 0 {
			some++
		} else {
			none++
		}
	})
	if min(some, none) < 200 {
		t.Error("too few", some, none)
	}
}
