package station_test

import (
	"slices"
	"testing"

	"fenberry/api"
	"fenberry/station"
)

// P8.4: the chapter's example, and the heights and tries beside it.
func TestBounceExample(t *testing.T) {
	for _, c := range []struct{ board, tries, want int }{
		{100, 3, 1}, {100, 4, 2}, {100, 7, 2}, {100, 1, 0}, {100, 2, 1}, {101, 7, 1}, {120, 7, 1}, {120, 3, 0}, {121, 7, 0}, {90, 1, 1}, {90, 2, 2},
		{91, 3, 1}, {30, 1, 2}, {31, 1, 1}, {20, 1, 3}, {21, 7, 2}, {0, 1, 3}, {0, 0, 0}, {4096, 7, 0},
	} {
		expectBounce(t, "example", exampleBerries(), c.board, c.tries, c.want, api.OK)
	}
}

// P8.4: no berries, berries without tries, and berries that do not leave the ground.
func TestBounceOfFew(t *testing.T) {
	for _, board := range []int{0, 1, 4096} {
		for tries := range 8 {
			for _, berries := range [][][]int{nil, {}, {nil}, {{}, nil, {}}} {
				expectBounce(t, "none", berries, board, tries, 0, api.OK)
			}
			want := 0
			if board == 0 && tries > 0 {
				want = 2
			}
			expectBounce(t, "on the ground", [][]int{{0}, {0, 0}, {}}, board, tries, want, api.OK)
		}
	}
	for try := range 7 {
		heights := make([]int, 7)
		heights[try] = 4096
		expectBounce(t, "in time", [][]int{heights}, 4096, try+1, 1, api.OK)
		expectBounce(t, "too late", [][]int{heights}, 4096, try, 0, api.OK)
	}
}

// P8.4: each berry is counted once, however often it bounces.
func TestBounceCountsBerries(t *testing.T) {
	berries := slices.Repeat([][]int{{9, 9, 9, 9, 9, 9, 9}}, 256)
	for tries := 1; tries <= 7; tries++ {
		expectBounce(t, "all", berries, 9, tries, 256, api.OK)
		expectBounce(t, "none", berries, 10, tries, 0, api.OK)
	}
	for last := range berries {
		some := slices.Clone(berries)
		for i := range last {
			some[i] = []int{8, 8, 0}
		}
		expectBounce(t, "from one on", some, 9, 7, 256-last, api.OK)
	}
}

// P8.4: ErrArg unless the berries are such, whatever board and tries are.
func TestBounceBerries(t *testing.T) {
	expect := func(name string, berries [][]int, want api.Errno) {
		t.Helper()
		for _, n := range []int{0, -1, 8, 4097} {
			if _, e := station.Bounce(berries, n, n); want == api.ErrArg && e != want || want != api.ErrArg && e == api.ErrArg {
				t.Error(name, n, e, "instead of", want)
			}
		}
		if got, e := station.Bounce(berries, 4096, 7); e != want || e != api.OK && got != 0 {
			t.Error(name, got, e, "instead of", want)
		}
	}
	for _, height := range strangeNumbers() {
		want := api.ErrArg
		if height >= 0 && height <= 4096 {
			want = api.OK
		}
		for try := range 7 {
			heights := make([]int, 7)
			heights[try] = height
			expect("height", [][]int{{1}, heights}, want)
			expect("height", append(make([][]int, 255), heights), want)
			// Also behind a try with which the berry bounces.
			if try > 0 {
				heights[0] = 4096
				expect("height", [][]int{heights}, want)
			}
		}
	}
	for tries := range 20 {
		want := api.ErrArg
		if tries <= 7 {
			want = api.OK
		}
		expect("tries", [][]int{{}, make([]int, tries)}, want)
	}
	for n, want := range map[int]api.Errno{0: api.OK, 255: api.OK, 256: api.OK, 257: api.ErrArg, 1000: api.ErrArg} {
		expect("berries", make([][]int, n), want)
		expect("berries", slices.Repeat([][]int{{5}}, n), want)
	}
}

// P8.4: ErrRange unless board and tries are within their ranges, also if there are no berries.
func TestBounceRange(t *testing.T) {
	for _, board := range strangeNumbers() {
		for _, tries := range strangeNumbers() {
			want := api.ErrRange
			if board >= 0 && board <= 4096 && tries >= 0 && tries <= 7 {
				want = api.OK
			}
			for _, berries := range [][][]int{nil, exampleBerries()} {
				if n, e := station.Bounce(berries, board, tries); e != want || e != api.OK && n != 0 {
					t.Error(board, tries, n, e, "instead of", want)
				}
			}
		}
	}
}

// P8.4: as by the highest of the first tries.
func TestBounceIsJudge(t *testing.T) {
	some := 0
	eachWorld(func(seed uint64, r world) {
		berries := r.someBerries()
		board := r.someBoard(berries)
		for tries := range 8 {
			want := judgeBounce(berries, board, tries)
			expectBounce(t, "judge", berries, board, tries, want, api.OK)
			if want > 0 && want < len(berries) {
				some++
			}
		}
		if t.Failed() {
			t.Fatal(seed)
		}
	})
	if some < 1000 {
		t.Error("too few", some)
	}
}
