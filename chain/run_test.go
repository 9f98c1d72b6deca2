package chain_test

import (
	"slices"
	"testing"

	"fenberry/api"
	"fenberry/chain"
)

var many = sizes{ponds: 5, gates: 7, takes: 5, boards: 4, litres: 3000, width: 200}

// P1.3: the chapter's example, and boards that stay.
func TestRunExamples(t *testing.T) {
	c, w, h := example()
	set, other := h, h
	set.Boards = []api.Board{{Boards: 16}}
	other.Boards = []api.Board{{Boards: 1}}
	for _, x := range []struct {
		name string
		l    []api.Hour
		end  []api.Span
		f    api.Flows
	}{
		{"no hours", nil, w, api.Flows{}},
		{"two hours", []api.Hour{h, h}, []api.Span{span(297, 500), span(0, 20)}, api.Flows{Came: span(0, 100), Seeped: span(0, 11), Taken: span(395, 400)}},
		{"boards stay", []api.Hour{set, h}, []api.Span{span(588, 800), one(0)}, api.Flows{Came: span(0, 100), Seeped: span(0, 16), Taken: span(100, 120)}},
		{"until they are set again", []api.Hour{set, other}, []api.Span{span(439, 650), one(0)}, api.Flows{Came: span(0, 100), Seeped: span(0, 15), Taken: span(250, 270)}},
	} {
		end, f, e := chain.Run(c, w, x.l)
		if !slices.Equal(end, x.end) || f != x.f || e != api.OK {
			t.Error(x.name, end, f, e)
		}
	}
}

// P1.3: Run is Pass, hour by hour.
func TestRunIsPass(t *testing.T) {
	for seed := range uint64(400) {
		r := newWorld(seed, many)
		c := r.chain()
		w, l := r.water(c), r.hours(c, r.IntN(12))
		want, flows, _ := passAll(c, w, l)
		end, f, e := chain.Run(c, w, l)
		if !slices.Equal(end, want) || !slices.Equal(listOf(f), flows) || e != api.OK {
			t.Fatal(seed, end, want, f, flows, e)
		}
	}
}

// P1.3, P1.8: hours in two parts leave what they leave in one, with the boards as they were set.
func TestRunInParts(t *testing.T) {
	for seed := range uint64(400) {
		r := newWorld(seed, many)
		c := r.chain()
		w, l := r.water(c), r.hours(c, 8)
		end, f, _ := chain.Run(c, w, l)
		k := r.IntN(9)
		then := cloneChain(c)
		for _, h := range l[:k] {
			for _, b := range h.Boards {
				then.Gates[b.Gate].Boards = b.Boards
			}
		}
		middle, f1, e1 := chain.Run(c, w, l[:k])
		last, f2, e2 := chain.Run(then, middle, l[k:])
		if !slices.Equal(last, end) || e1 != api.OK || e2 != api.OK {
			t.Fatal(seed, k, last, end, e1, e2)
		}
		a, b := listOf(f1), listOf(f2)
		for i, s := range listOf(f) {
			if s != span(a[i].Lo+b[i].Lo, a[i].Hi+b[i].Hi) {
				t.Fatal(seed, k, f, f1, f2)
			}
		}
	}
}

// P1.7, P2, P3: whatever happens is within the spans, and no water is lost without a name.
func TestWater(t *testing.T) {
	for seed := range uint64(300) {
		r := newWorld(seed, many)
		pick := func(s api.Span) int {
			switch r.IntN(4) {
			case 0:
				return s.Lo
			case 1:
				return s.Hi
			}
			return s.Lo + r.IntN(s.Hi-s.Lo+1)
		}
		picks := func(l []api.Span) []int {
			var n []int
			for _, s := range l {
				n = append(n, pick(s))
			}
			return n
		}
		c := r.chain()
		w, l := r.water(c), r.hours(c, 1+r.IntN(10))
		end, f, _ := chain.Run(c, w, l)
		for range 30 {
			x := &real{gates: slices.Clone(c.Gates), water: picks(w)}
			before := sum(x.water)
			for _, h := range l {
				x.begin(h, picks(h.Comes))
				x.finish(c, picks(x.canSeep(c)))
			}
			for i, n := range x.water {
				if !isIn(n, end[i]) {
					t.Fatal(seed, i, n, end)
				}
			}
			for i, n := range x.flows() {
				if !isIn(n, listOf(f)[i]) {
					t.Fatal(seed, i, n, f)
				}
			}
			if before+x.came != sum(x.water)+x.seeped+x.river+x.taken {
				t.Fatal(seed, "the test itself loses water")
			}
		}
	}
}

// P1.7, P2: if all is known, all flows are, and they add up.
func TestWaterIsConserved(t *testing.T) {
	s := many
	s.width = 0
	for seed := range uint64(400) {
		r := newWorld(seed, s)
		c := r.chain()
		for i := range c.Ponds {
			c.Ponds[i].Seep = one(api.MaxSeep * r.IntN(2)) // all or nothing, so that nothing is rounded
		}
		w, l := r.water(c), r.hours(c, 6)
		end, f, e := chain.Run(c, w, l)
		for _, s := range append(listOf(f), end...) {
			if s.Lo != s.Hi {
				t.Fatal(seed, end, f)
			}
		}
		if sum(lows(w))+f.Came.Lo != sum(lows(end))+f.Seeped.Lo+f.River.Lo+f.Taken.Lo || e != api.OK {
			t.Fatal(seed, w, end, f, e)
		}
	}
}

// P1.8: with more water, or more that comes, nothing is less.
func TestMoreWater(t *testing.T) {
	for seed := range uint64(400) {
		r := newWorld(seed, many)
		c := r.chain()
		w, l := r.water(c), r.hours(c, 5)
		end, f, _ := chain.Run(c, w, l)
		w2, l2 := slices.Clone(w), cloneHours(l)
		if r.IntN(2) == 0 {
			i := r.IntN(len(w))
			w2[i] = span(min(c.Ponds[i].Full, w[i].Lo+r.IntN(50)), c.Ponds[i].Full)
			w2[i].Lo = min(w2[i].Lo, w2[i].Hi)
		} else {
			s := &l2[r.IntN(5)].Comes[r.IntN(len(w))]
			more := r.IntN(500)
			*s = span(s.Lo+more, s.Hi+more)
		}
		end2, f2, e := chain.Run(c, w2, l2)
		if e != api.OK {
			t.Fatal(seed, e)
		}
		after := append(listOf(f2), end2...)
		for i, s := range append(listOf(f), end...) {
			if after[i].Lo < s.Lo || after[i].Hi < s.Hi {
				t.Fatal(seed, i, s, after[i])
			}
		}
	}
}

// P1.8: narrower spans leave spans that are not wider.
func TestNarrower(t *testing.T) {
	for seed := range uint64(400) {
		r := newWorld(seed, many)
		narrow := func(l []api.Span) {
			for i, s := range l {
				lo := s.Lo + r.IntN(s.Hi-s.Lo+1)
				l[i] = span(lo, lo+r.IntN(s.Hi-lo+1))
			}
		}
		c := r.chain()
		w, l := r.water(c), r.hours(c, 5)
		end, f, _ := chain.Run(c, w, l)
		narrow(w)
		for _, h := range l {
			narrow(h.Comes)
		}
		for i := range c.Ponds {
			s := []api.Span{c.Ponds[i].Seep}
			narrow(s)
			c.Ponds[i].Seep = s[0]
		}
		end2, f2, e := chain.Run(c, w, l)
		if e != api.OK {
			t.Fatal(seed, e)
		}
		wide := append(listOf(f), end...)
		for i, s := range append(listOf(f2), end2...) {
			if !isInside(s, wide[i]) {
				t.Fatal(seed, i, s, wide[i])
			}
		}
	}
}
