package rtt_test

import (
	"math"
	"slices"
	"testing"

	"ferryhythe/api"
	"ferryhythe/plain"
	"ferryhythe/rtt"
)

// late is a call of Late in a row of calls; every other number is a call of Take with it.
const late = math.MinInt

// state is what a timer shows of itself.
type state struct{ smooth, spread, wait int }

// shown is the state of a timer.
func shown(timer *rtt.Timer) state {
	smooth, spread := timer.Guess()
	return state{smooth, spread, timer.Wait()}
}

// after is a new timer behind the calls, all of which succeed.
func after(t *testing.T, wait int, calls ...int) *rtt.Timer {
	t.Helper()
	timer, err := rtt.New(wait)
	if err != nil {
		t.Fatalf("New(%d) is %v; want nil", wait, err)
	}
	for _, call := range calls {
		if call == late {
			timer.Late()
		} else if err := timer.Take(call); err != nil {
			t.Fatalf("Take(%d) is %v; want nil", call, err)
		}
	}
	return timer
}

// checkState compares the state of a timer with the one it should have.
func checkState(t *testing.T, timer *rtt.Timer, want state, wait int, calls ...int) {
	t.Helper()
	if got := shown(timer); got != want {
		t.Fatalf("after New(%d) and the calls %v, the timer is %v; want %v", wait, calls, got, want)
	}
}

// R12.1: a new timer has no measurements, and the timeout that was told.
func TestNew(t *testing.T) {
	for wait := 1; wait <= 100_000; wait++ {
		checkState(t, after(t, wait), state{-1, 0, wait}, wait)
	}
}

// R12.1
func TestErrorsOfNew(t *testing.T) {
	for _, wait := range []int{0, -1, -2, -100, 100_001, 100_002, 1 << 20, 1<<32 + 1, math.MinInt, math.MinInt + 1, math.MaxInt} {
		if timer, err := rtt.New(wait); timer != nil || plain.Told(err) != api.ErrRange {
			t.Errorf("New(%d) is %v, %v; want nil, ErrRange", wait, timer, err)
		}
	}
}

// R12.1: every timer has times of its own.
func TestTimersAreApart(t *testing.T) {
	first, second := after(t, 5), after(t, 5)
	if err := first.Take(100); err != nil {
		t.Fatal(err)
	}
	second.Late()
	third := after(t, 7)
	for _, c := range []struct {
		name  string
		timer *rtt.Timer
		want  state
	}{
		{"first", first, state{100, 50, 300}},
		{"second", second, state{-1, 0, 10}},
		{"third", third, state{-1, 0, 7}},
	} {
		if got := shown(c.timer); got != c.want {
			t.Errorf("the %s timer is %v; want %v", c.name, got, c.want)
		}
	}
}

// R12.2, R12.4 and R12.5: the first measurement replaces what was told.
func TestFirstTake(t *testing.T) {
	cases := []struct {
		wait, took int
		want       state
	}{
		{50, 100, state{100, 50, 300}},
		{1, 0, state{0, 0, 1}},
		{100_000, 0, state{0, 0, 1}},
		{50, 1, state{1, 0, 2}},
		{50, 2, state{2, 1, 6}},
		{50, 3, state{3, 1, 7}},
		{50, 99, state{99, 49, 295}},
		{50, 33_333, state{33_333, 16_666, 99_997}},
		{50, 33_334, state{33_334, 16_667, 100_000}},
		{50, 33_335, state{33_335, 16_667, 100_000}},
		{50, 99_999, state{99_999, 49_999, 100_000}},
		{1, 100_000, state{100_000, 50_000, 100_000}},
	}
	for _, c := range cases {
		checkState(t, after(t, c.wait, c.took), c.want, c.wait, c.took)
	}
}

// R12.2, R12.4 and R12.5: later measurements, with the spread about the time that was smoothed before.
func TestLaterTakes(t *testing.T) {
	cases := []struct {
		calls []int
		want  state
	}{
		{[]int{100, 200}, state{112, 62, 360}},
		{[]int{100, 0}, state{87, 62, 335}},
		{[]int{100, 100}, state{100, 37, 248}},
		{[]int{100, 100, 100}, state{100, 27, 208}},
		{[]int{100, 200, 50}, state{104, 62, 352}},
		{[]int{100, 200, 50, 104}, state{104, 46, 288}},
		{[]int{0, 0}, state{0, 0, 1}},
		{[]int{0, 3}, state{0, 0, 1}},
		{[]int{0, 4}, state{0, 1, 4}},
		{[]int{0, 7}, state{0, 1, 4}},
		{[]int{0, 8}, state{1, 2, 9}},
		{[]int{1, 0}, state{0, 0, 1}},
		{[]int{1, 1}, state{1, 0, 2}},
		{[]int{2, 2}, state{2, 0, 3}},
		{[]int{8, 7}, state{7, 3, 19}},
		{[]int{8, 9}, state{8, 3, 20}},
		{[]int{8, 8, 8, 8}, state{8, 1, 12}},
		{[]int{8, 8, 8, 8, 8}, state{8, 0, 9}},
		{[]int{0, 100_000}, state{12_500, 25_000, 100_000}},
		{[]int{100_000, 0}, state{87_500, 62_500, 100_000}},
		{[]int{100_000, 100_000}, state{100_000, 37_500, 100_000}},
		{[]int{100_000, 0, 0}, state{76_562, 68_750, 100_000}},
		{[]int{0, 80_000}, state{10_000, 20_000, 90_000}},
		{[]int{0, 88_888}, state{11_111, 22_222, 99_999}},
		{[]int{0, 88_889}, state{11_111, 22_222, 99_999}},
		{[]int{0, 88_892}, state{11_111, 22_223, 100_000}},
		{[]int{8, 88_896}, state{11_119, 22_225, 100_000}},
	}
	for _, c := range cases {
		checkState(t, after(t, 50, c.calls...), c.want, 50, c.calls...)
	}
}

// R12.2: once all measurements are equal, the timeout comes down to one more than them.
func TestEqualTakes(t *testing.T) {
	for _, took := range []int{0, 1, 7, 100, 33_333, 99_999} {
		calls := slices.Repeat([]int{took}, 50)
		checkState(t, after(t, 50, calls...), state{took, 0, took + 1}, 50, calls...)
	}
	calls := slices.Repeat([]int{100_000}, 50)
	checkState(t, after(t, 50, calls...), state{100_000, 0, 100_000}, 50, calls...)
}

// R12.2: an error leaves the timer as it is, so that the first measurement is still the first.
func TestErrorsOfTake(t *testing.T) {
	wrong := []int{-1, -2, -100, 100_001, 100_002, 1 << 20, 1<<32 + 1, math.MinInt, math.MinInt + 1, math.MaxInt}
	for _, calls := range [][]int{nil, {late}, {100}, {100, late}, {0}, {100_000}, {100, 200, late, late}} {
		timer := after(t, 5, calls...)
		want := shown(timer)
		for _, took := range wrong {
			if err := timer.Take(took); plain.Told(err) != api.ErrRange {
				t.Errorf("after the calls %v, Take(%d) is %v; want ErrRange", calls, took, err)
			}
			checkState(t, timer, want, 5, append(calls, took)...)
		}
		if err := timer.Take(100); err != nil {
			t.Errorf("Take(100) behind errors is %v; want nil", err)
		}
		checkState(t, timer, shown(after(t, 5, append(calls, 100)...)), 5, append(calls, 100)...)
	}
}

// R12.3 and R12.4
func TestLate(t *testing.T) {
	cases := []struct {
		wait  int
		calls []int
		want  state
	}{
		{5, []int{late}, state{-1, 0, 10}},
		{5, []int{late, late, late}, state{-1, 0, 40}},
		{1, slices.Repeat([]int{late}, 16), state{-1, 0, 65_536}},
		{1, slices.Repeat([]int{late}, 17), state{-1, 0, 100_000}},
		{1, slices.Repeat([]int{late}, 200), state{-1, 0, 100_000}},
		{49_999, []int{late}, state{-1, 0, 99_998}},
		{50_000, []int{late}, state{-1, 0, 100_000}},
		{50_001, []int{late}, state{-1, 0, 100_000}},
		{99_999, []int{late}, state{-1, 0, 100_000}},
		{100_000, []int{late}, state{-1, 0, 100_000}},
		{5, []int{100, late}, state{100, 50, 600}},
		{5, []int{100, late, late}, state{100, 50, 1200}},
		{5, []int{0, late}, state{0, 0, 2}},
		{5, []int{30_000, late}, state{30_000, 15_000, 100_000}},
		{5, []int{late, 100}, state{100, 50, 300}},
		{5, []int{100, late, 200}, state{112, 62, 360}},
		{5, []int{100, late, late, 200, late}, state{112, 62, 720}},
	}
	for _, c := range cases {
		checkState(t, after(t, c.wait, c.calls...), c.want, c.wait, c.calls...)
	}
}

// R12.3: of every timeout, Late is its double or the greatest one.
func TestLateOfAllTimeouts(t *testing.T) {
	for wait := 1; wait <= 100_000; wait++ {
		want := 100_000
		if wait < 50_000 {
			want = wait + wait
		}
		checkState(t, after(t, wait, late), state{-1, 0, want}, wait, late)
	}
}

// R12.4 and R12.5: asking changes nothing.
func TestAsking(t *testing.T) {
	for _, calls := range [][]int{nil, {late}, {100}, {100, late}, {100, 200}} {
		timer := after(t, 5, calls...)
		want := shown(timer)
		for range 5 {
			checkState(t, timer, want, 5, calls...)
		}
		if err := timer.Take(300); err != nil {
			t.Fatal(err)
		}
		checkState(t, timer, shown(after(t, 5, append(calls, 300)...)), 5, append(calls, 300)...)
	}
}

// model is the state after the calls, told from all measurements and from the number of calls of Late behind the last one.
func model(wait int, calls []int) state {
	var measured []int
	doubled := 0
	for _, call := range calls {
		if call == late {
			doubled++
		} else {
			measured, doubled = append(measured, call), 0
		}
	}
	s := state{-1, 0, wait}
	if n := len(measured); n > 0 {
		s.smooth, s.spread = smoothed(measured), spread(measured)
		s.wait = s.smooth + 1
		if s.spread > 0 {
			s.wait = s.smooth + s.spread<<2
		}
	}
	s.wait <<= min(doubled, 17)
	if s.wait > 100_000 {
		s.wait = 100_000
	}
	return s
}

// smoothed is the smoothed time of measurements, of which there is at least one.
func smoothed(measured []int) int {
	n := len(measured)
	if n == 1 {
		return measured[0]
	}
	before := smoothed(measured[:n-1])
	return (before<<3 - before + measured[n-1]) >> 3
}

// spread is the variation of measurements, of which there is at least one.
func spread(measured []int) int {
	n := len(measured)
	if n == 1 {
		return measured[0] >> 1
	}
	off := measured[n-1] - smoothed(measured[:n-1])
	if off < 0 {
		off = -off
	}
	before := spread(measured[:n-1])
	return (before + before + before + off) >> 2
}

// R12.2 to R12.5: every short row of calls, against the model.
func TestShortRows(t *testing.T) {
	kinds := []int{late, 0, 1, 5, 8, 99, 1000, 33_333, 99_999, 100_000}
	var check func(wait int, calls []int)
	check = func(wait int, calls []int) {
		checkState(t, after(t, wait, calls...), model(wait, calls), wait, calls...)
		if len(calls) == 4 {
			return
		}
		for _, call := range kinds {
			check(wait, append(slices.Clone(calls), call))
		}
	}
	for _, wait := range []int{1, 700, 50_001} {
		check(wait, nil)
	}
}

// R12.2: every pair of small measurements behind a first one, against the model.
func TestSmallMeasurements(t *testing.T) {
	for first := range 40 {
		for second := range 40 {
			for third := range 40 {
				calls := []int{first, second, third}
				checkState(t, after(t, 9, calls...), model(9, calls), 9, calls...)
			}
		}
	}
}

// R12.2: every measurement, as the first and behind two others, against the model.
func TestAllMeasurements(t *testing.T) {
	for took := range 100_001 {
		for _, calls := range [][]int{{took}, {20_000, 777, took}} {
			checkState(t, after(t, 9, calls...), model(9, calls), 9, calls...)
		}
	}
}

// R12.2 to R12.5: long rows of calls that follow a rule without a visible order, against the model.
func TestLongRows(t *testing.T) {
	for _, limit := range []int{3, 20, 1000, 30_000, 100_001} {
		timer, seed := after(t, 70), uint32(limit)
		var calls []int
		for range 300 {
			seed = seed*1_664_525 + 1_013_904_223
			call := int(seed>>8) % limit
			if seed>>30 == 0 {
				call = late
				timer.Late()
			} else if err := timer.Take(call); err != nil {
				t.Fatalf("Take(%d) is %v; want nil", call, err)
			}
			calls = append(calls, call)
			checkState(t, timer, model(70, calls), 70, calls...)
		}
	}
}

// R12.1 to R12.5: the nil timer of a failed New does not panic.
func TestNilTimer(t *testing.T) {
	timer, _ := rtt.New(0)
	for _, c := range []struct {
		took int
		err  api.Errno
	}{{-1, api.ErrRange}, {0, api.OK}, {100_000, api.OK}, {100_001, api.ErrRange}} {
		if err := timer.Take(c.took); plain.Told(err) != c.err {
			t.Errorf("Take(%d) of a nil timer is %v; want %v", c.took, err, c.err)
		}
	}
	timer.Late()
	if got := shown(timer); got != (state{}) {
		t.Errorf("a nil timer is %v; want zeros", got)
	}
}
