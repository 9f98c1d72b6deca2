package station_test

import (
	"slices"
	"testing"

	"fenberry/api"
)

// P8.3: the chapter's example, and DOC.md's.
func TestWeighExample(t *testing.T) {
	want := api.Load{Net: 7000, Good: 6580, Trash: 233, Rot: 187, Colour: 329000, Firm: 3948000}
	expectWeigh(t, "example", exampleSlip(), want, api.OK)
	s := exampleSlip()
	s.Grower, s.Bed, s.Day = 1023, 1023, 1<<14
	expectWeigh(t, "another grower, bed and day", s, want, api.OK)
	s.Gross, s.Tare = 7000, 0
	expectWeigh(t, "no tare", s, want, api.OK)
	s.Gross, s.Tare = 1<<27, 1<<27-7000
	expectWeigh(t, "a heavy truck", s, want, api.OK)
}

// P8.3: how the parts are rounded; what is lost by rounding is rotten.
func TestWeighRounds(t *testing.T) {
	thirds := api.Sample{Weight: 3, Trash: 1, Rot: 1, Colour: 10, Firm: 100}
	for _, c := range []struct {
		net  int
		want api.Load
	}{
		{0, api.Load{}}, {1, api.Load{Net: 1, Rot: 1}}, {2, api.Load{Net: 2, Rot: 2}},
		{3, api.Load{Net: 3, Good: 1, Trash: 1, Rot: 1, Colour: 10, Firm: 100}}, {4, api.Load{Net: 4, Good: 1, Trash: 1, Rot: 2, Colour: 10, Firm: 100}},
		{5, api.Load{Net: 5, Good: 1, Trash: 1, Rot: 3, Colour: 10, Firm: 100}}, {6, api.Load{Net: 6, Good: 2, Trash: 2, Rot: 2, Colour: 20, Firm: 200}},
	} {
		expectWeigh(t, "thirds", slip(c.net, thirds), c.want, api.OK)
	}
	// The sums are divided, not the samples one by one.
	a, b := api.Sample{Weight: 3, Trash: 1, Colour: 1, Firm: 2}, api.Sample{Weight: 1, Rot: 1, Colour: 2, Firm: 1}
	expectWeigh(t, "sums", slip(10, a, b), api.Load{Net: 10, Good: 5, Trash: 2, Rot: 3, Colour: 6, Firm: 8}, api.OK)
	expectWeigh(t, "sums", slip(10, b, a), api.Load{Net: 10, Good: 5, Trash: 2, Rot: 3, Colour: 6, Firm: 8}, api.OK)
	// A lost gram is rotten, also if no sample is.
	expectWeigh(t, "a lost gram", slip(5, api.Sample{Weight: 2, Trash: 1}), api.Load{Net: 5, Good: 2, Trash: 2, Rot: 1}, api.OK)
}

// P8.3: colour and firmness are those of the samples by their weights, times the good berries that were rounded.
func TestWeighColour(t *testing.T) {
	a := api.Sample{Weight: 10, Trash: 5, Colour: 255, Firm: 1000}
	b := api.Sample{Weight: 30, Rot: 30, Colour: 55, Firm: 200}
	// 5 of 40 are good; the samples' colour is 105, and their firmness 400, by all of their weights.
	expectWeigh(t, "by all of the weights", slip(80, a, b), api.Load{Net: 80, Good: 10, Trash: 10, Rot: 60, Colour: 1050, Firm: 4000}, api.OK)
	expectWeigh(t, "of rounded berries", slip(87, a, b), api.Load{Net: 87, Good: 10, Trash: 10, Rot: 67, Colour: 1050, Firm: 4000}, api.OK)
	expectWeigh(t, "of no berries", slip(7, a, b), api.Load{Net: 7, Rot: 7}, api.OK)
	half := []api.Sample{{Weight: 1, Colour: 1, Firm: 3}, {Weight: 1}}
	expectWeigh(t, "rounded down", slip(3, half...), api.Load{Net: 3, Good: 3, Colour: 1, Firm: 4}, api.OK)
}

// P8.3: loads of which all is one thing.
func TestWeighAllOfOneThing(t *testing.T) {
	for _, net := range []int{0, 1, 2, 1000, 1 << 27} {
		for _, weight := range []int{1, 2, 1 << 20} {
			expectWeigh(t, "good", slip(net, api.Sample{Weight: weight, Colour: 7, Firm: 9}), api.Load{Net: net, Good: net, Colour: 7 * net, Firm: 9 * net}, api.OK)
			expectWeigh(t, "trash", slip(net, api.Sample{Weight: weight, Trash: weight, Colour: 7, Firm: 9}), api.Load{Net: net, Trash: net}, api.OK)
			expectWeigh(t, "rotten", slip(net, api.Sample{Weight: weight, Rot: weight, Colour: 7, Firm: 9}), api.Load{Net: net, Rot: net}, api.OK)
		}
	}
}

// P8.3, R5: the greatest numbers are exact.
func TestWeighAtLimits(t *testing.T) {
	all := api.Sample{Weight: 1 << 20, Colour: 255, Firm: 1000}
	expectWeigh(t, "limits", slip(1<<27, slices.Repeat([]api.Sample{all}, 32)...), api.Load{Net: 1 << 27, Good: 1 << 27, Colour: 255 << 27, Firm: 1000 << 27}, api.OK)
	bad := all
	bad.Trash = 1
	l := slices.Repeat([]api.Sample{all}, 32)
	l[31] = bad
	// One gram of 2^25 is trash, so 4 of 2^27 are.
	good := 1<<27 - 4
	expectWeigh(t, "a gram of trash", slip(1<<27, l...), api.Load{Net: 1 << 27, Good: good, Trash: 4, Colour: 255 * good, Firm: 1000 * good}, api.OK)
	expectWeigh(t, "a gram less", slip(1<<27-1, l...), api.Load{Net: 1<<27 - 1, Good: good - 1, Trash: 3, Rot: 1, Colour: 255 * (good - 1), Firm: 1000 * (good - 1)}, api.OK)
}

// P8.3: all small loads with one sample, by looking for the greatest part that is not too much.
func TestWeighOfSmallLoads(t *testing.T) {
	greatest := func(all, a, b int) int {
		n := 0
		for (n+1)*b <= all*a {
			n++
		}
		return n
	}
	for weight := 1; weight <= 5; weight++ {
		for trash := 0; trash <= weight; trash++ {
			for rot := 0; rot <= weight-trash; rot++ {
				for net := range 12 {
					s := slip(net, api.Sample{Weight: weight, Trash: trash, Rot: rot, Colour: 3, Firm: 5})
					want := api.Load{Net: net, Good: greatest(net, weight-trash-rot, weight), Trash: greatest(net, trash, weight)}
					want.Rot, want.Colour, want.Firm = net-want.Good-want.Trash, 3*want.Good, 5*want.Good
					expectWeigh(t, "small", s, want, api.OK)
				}
			}
		}
	}
}

// P8.3: as with numbers of any size.
func TestWeighIsJudge(t *testing.T) {
	rounded, mixed := 0, 0
	eachWorld(func(seed uint64, r world) {
		for range 5 {
			s := r.someSlip()
			want := judgeWeigh(s)
			expectWeigh(t, "judge", s, want, api.OK)
			s.Gross, s.Tare = r.gross, 0
			expectWeigh(t, "judge", s, judgeWeigh(s), api.OK)
			if len(s.Samples) > 1 && want.Good > 0 && want.Trash > 0 {
				mixed++
			}
			if want.Good > 0 && want.Colour%want.Good > 0 {
				rounded++
			}
		}
		if t.Failed() {
			t.Fatal(seed)
		}
	})
	if min(rounded, mixed) < 500 {
		t.Error("too few", rounded, mixed)
	}
}
