package drum_test

import (
	"slices"
	"testing"

	"fenberry/api"
	"fenberry/drum"
)

// P10.1: the chapter's example, event by event.
func TestPlayExample(t *testing.T) {
	want := [][]api.Vessel{vessels(), vessels(100), vessels(160), vessels(40, 120), vessels(40, 150), vessels(40, 100, 50), vessels(40, 100, 50), vessels(40, 90, 50)}
	want[6][2].Sealed, want[7][2].Sealed = true, true
	for n, v := range want {
		expectPlay(t, "example", exampleEvents()[:n], v, n, api.OK)
	}
}

// P10.1: without events all vessels are there, empty and open.
func TestPlayNothing(t *testing.T) {
	expectPlay(t, "nil", nil, vessels(), 0, api.OK)
	expectPlay(t, "empty", []api.DrumEvent{}, vessels(), 0, api.OK)
}

// P10.1: at most 64 events.
func TestPlayLong(t *testing.T) {
	for n, want := range map[int]api.Errno{0: api.OK, 1: api.OK, 63: api.OK, 64: api.OK, 65: api.ErrLong, 66: api.ErrLong, 1000: api.ErrLong} {
		l := slices.Repeat([]api.DrumEvent{deliver(3, 9, 2)}, n)
		if want == api.OK {
			expectPlay(t, "many", l, vessels(0, 0, 0, 2*n), n, want)
		} else {
			expectPlay(t, "too many", l, nil, 0, want)
			l[0].Kind = 9
			expectPlay(t, "too many, one of them strange", l, nil, 0, want)
		}
	}
}

// refusal is an event behind others, and its error.
type refusal struct {
	ahead []api.DrumEvent
	event api.DrumEvent
	e     api.Errno
}

func expectRefusals(t *testing.T, l []refusal) {
	t.Helper()
	for _, c := range l {
		all := with(c.ahead, c.event)
		v, n, e := drum.Play(all)
		want := len(c.ahead)
		if c.e == api.OK {
			want++
		}
		if e != c.e || n != want || (e == api.OK) != (len(v) == 16) || e != api.OK && len(v) > 0 {
			t.Error(c, v, n, e)
		}
		if c.e == api.OK {
			continue
		}
		// The first one decides, whatever comes behind it.
		expectPlay(t, "behind", with(all, api.DrumEvent{Kind: 7}, deliver(5, 5, 5)), nil, want, c.e)
		expectPlay(t, "ahead", with(all[:want], deliver(15, 0, 1), c.event), nil, want+1, c.e)
	}
}

// P10.1: the errors of Deliver, in their order.
func TestRefusedDeliveries(t *testing.T) {
	full := []api.DrumEvent{deliver(4, 1, 1<<40-10), deliver(4, 2, 10)}
	closed := with(full, seal(4))
	expectRefusals(t, []refusal{
		{nil, deliver(0, 0, 1), api.OK}, {nil, deliver(15, 1023, 1<<40), api.OK},
		{full[:1], deliver(4, 1, 10), api.OK}, {full[:1], deliver(4, 1, 11), api.ErrLimit}, {full, deliver(4, 3, 1), api.ErrLimit}, {full, deliver(4, 1, 1<<40), api.ErrLimit},
		{full, deliver(5, 1, 1<<40), api.OK}, {with(full, dump(4, 7)), deliver(4, 1, 7), api.OK}, {with(full, dump(4, 7)), deliver(4, 1, 8), api.ErrLimit},
		{with(full, pour(4, 5, 7)), deliver(5, 1, 1<<40-7), api.OK}, {with(full, pour(4, 5, 7)), deliver(5, 1, 1<<40-6), api.ErrLimit},
		{closed, deliver(4, 3, 1), api.ErrState}, {closed, deliver(4, 1024, 1), api.ErrArg}, {[]api.DrumEvent{seal(0)}, deliver(0, 0, 1), api.ErrState}, {[]api.DrumEvent{seal(0)}, deliver(1, 0, 1), api.OK},
	})
}

// P10.1: the errors of Pour, in their order.
func TestRefusedPours(t *testing.T) {
	two := []api.DrumEvent{deliver(4, 1, 50), deliver(6, 2, 1<<40-20)}
	from, to := with(two, seal(4)), with(two, seal(6))
	expectRefusals(t, []refusal{
		{two, pour(4, 6, 20), api.OK}, {two, pour(4, 6, 21), api.ErrLimit}, {two, pour(4, 6, 50), api.ErrLimit}, {two, pour(4, 6, 51), api.ErrShort}, {two, pour(4, 5, 50), api.OK}, {two, pour(4, 5, 51), api.ErrShort}, {two, pour(6, 4, 1<<40-50), api.OK}, {two, pour(6, 4, 1<<40-49), api.ErrLimit}, {two, pour(6, 4, 1<<40-19), api.ErrShort}, {two, pour(3, 4, 1), api.ErrShort},
		{two, pour(4, 4, 1), api.ErrTwice}, {two, pour(4, 4, 51), api.ErrTwice}, {two, pour(3, 3, 1), api.ErrTwice}, {from, pour(4, 4, 1), api.ErrTwice}, {two, pour(16, 16, 1), api.ErrArg}, {two, pour(4, 4, 0), api.ErrArg},
		{from, pour(4, 6, 20), api.ErrState}, {from, pour(4, 6, 51), api.ErrState}, {from, pour(4, 6, 21), api.ErrState}, {from, pour(6, 4, 1), api.ErrState}, {to, pour(4, 6, 20), api.ErrState}, {to, pour(4, 6, 21), api.ErrState}, {to, pour(4, 6, 51), api.ErrState}, {to, pour(6, 4, 1), api.ErrState}, {with(from, seal(6)), pour(4, 6, 1), api.ErrState}, {from, pour(6, 5, 1), api.OK}, {to, pour(4, 5, 50), api.OK}, {from, pour(4, 16, 1), api.ErrArg},
		{[]api.DrumEvent{deliver(0, 0, 1<<40), deliver(1, 0, 1<<40)}, pour(0, 1, 1<<40), api.ErrLimit}, {[]api.DrumEvent{deliver(0, 0, 1<<40)}, pour(0, 1, 1<<40), api.OK},
	})
}

// P10.1: the errors of Dump and of Seal, in their order.
func TestRefusedDumpsAndSeals(t *testing.T) {
	some := []api.DrumEvent{deliver(4, 1, 50)}
	closed := with(some, seal(4))
	expectRefusals(t, []refusal{
		{some, dump(4, 50), api.OK}, {some, dump(4, 51), api.ErrShort}, {some, dump(3, 1), api.ErrShort}, {with(some, dump(4, 20)), dump(4, 30), api.OK}, {with(some, dump(4, 20)), dump(4, 31), api.ErrShort}, {with(some, pour(4, 5, 20)), dump(5, 20), api.OK}, {with(some, pour(4, 5, 20)), dump(5, 21), api.ErrShort},
		{closed, dump(4, 1), api.ErrState}, {closed, dump(4, 51), api.ErrState}, {closed, dump(4, 0), api.ErrArg}, {closed, dump(5, 1), api.ErrShort},
		{some, seal(4), api.OK}, {some, seal(5), api.OK}, {closed, seal(4), api.ErrState}, {closed, seal(5), api.OK}, {closed, seal(16), api.ErrArg}, {with(some, seal(5)), seal(5), api.ErrState},
	})
}

// P10.1: the first event with an error decides, with its index.
func TestPlayFirstError(t *testing.T) {
	for i := range 64 {
		l := slices.Repeat([]api.DrumEvent{deliver(0, 0, 1)}, 64)
		l[i] = dump(1, 1)
		for _, j := range []int{i, i + 1, 63} {
			if j > i && j < 64 {
				l[j] = deliver(16, 0, 1)
			}
			expectPlay(t, "first", l, nil, i, api.ErrShort)
		}
	}
}

// P10.1: as the chapter's table says it, whatever the events are.
func TestPlayIsJudge(t *testing.T) {
	errors := map[api.Errno]int{}
	eachWorld(func(seed uint64, r world) {
		l := r.someEvents()
		v, n, e := judgePlay(l)
		expectPlay(t, "judge", l, v, n, e)
		for range 20 {
			more := l[:r.IntN(len(l)+1)]
			ahead, _, _ := judgePlay(more)
			more = with(more, r.someEvent(ahead))
			if r.IntN(2) == 0 {
				more[len(more)-1].Amount = r.between(1, api.MaxAmount)
			}
			v, n, e := judgePlay(more)
			expectPlay(t, "judge", more, v, n, e)
			errors[e]++
		}
		if t.Failed() {
			t.Fatal(seed)
		}
	})
	for _, e := range []api.Errno{api.OK, api.ErrTwice, api.ErrState, api.ErrShort, api.ErrLimit} {
		if errors[e] < 50 {
			t.Error("too few", errors)
		}
	}
}
