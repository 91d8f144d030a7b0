package wheel_test

import (
	"math"
	"slices"
	"testing"

	"ferryhythe/api"
	"ferryhythe/plain"
	"ferryhythe/wheel"
)

// outside are numbers that are no timers.
var outside = []int{-1, -2, -20, 20, 21, 400, 1<<32 + 1, math.MinInt, math.MinInt + 1, math.MaxInt}

// start starts a timer, which succeeds.
func start(t *testing.T, w *wheel.Wheel, id, ahead int) {
	t.Helper()
	if err := w.Start(id, ahead); err != nil {
		t.Fatalf("Start(%d, %d) is %v; want nil", id, ahead, err)
	}
}

// stop stops a timer, which succeeds.
func stop(t *testing.T, w *wheel.Wheel, id int) {
	t.Helper()
	if err := w.Stop(id); err != nil {
		t.Fatalf("Stop(%d) is %v; want nil", id, err)
	}
}

// tick ticks, and compares the timers that expire.
func tick(t *testing.T, w *wheel.Wheel, want ...int) {
	t.Helper()
	if got := w.Tick(); !slices.Equal(got, want) {
		t.Fatalf("Tick is %v; want %v", got, want)
	}
}

// idle ticks so many times, and no timer expires.
func idle(t *testing.T, w *wheel.Wheel, ticks int) {
	t.Helper()
	for range ticks {
		tick(t, w)
	}
}

// left compares the ticks that a timer has left.
func left(t *testing.T, w *wheel.Wheel, id, want int) {
	t.Helper()
	if got := w.Left(id); got != want {
		t.Fatalf("Left(%d) is %d; want %d", id, got, want)
	}
}

// nothing checks that no timer runs.
func nothing(t *testing.T, w *wheel.Wheel) {
	t.Helper()
	for id := range 20 {
		left(t, w, id, -1)
	}
}

// R13.1: on a new wheel no timer runs, however long it turns.
func TestNew(t *testing.T) {
	w := wheel.New()
	for range 1000 {
		nothing(t, w)
		tick(t, w)
	}
}

// R13.1: every wheel has timers and a time of its own.
func TestWheelsAreApart(t *testing.T) {
	first, second := wheel.New(), wheel.New()
	start(t, first, 3, 2)
	left(t, second, 3, -1)
	start(t, second, 3, 3)
	tick(t, first)
	left(t, first, 3, 1)
	left(t, second, 3, 3)
	third := wheel.New()
	nothing(t, third)
	stop(t, second, 3)
	tick(t, first, 3)
	idle(t, second, 5)
	idle(t, third, 5)
}

// R13.2, R13.4 and R13.5: every timer with every number of ticks expires once, then and only then.
func TestEveryTimer(t *testing.T) {
	for id := range 20 {
		for ahead := 1; ahead <= 400; ahead++ {
			w := wheel.New()
			start(t, w, id, ahead)
			for rest := ahead; rest > 1; rest-- {
				left(t, w, id, rest)
				tick(t, w)
			}
			left(t, w, id, 1)
			tick(t, w, id)
			left(t, w, id, -1)
		}
	}
}

// R13.2, R13.4 and R13.5: a timer may start at any time.
func TestEveryTime(t *testing.T) {
	for _, ahead := range []int{1, 2, 7, 8, 9, 63, 64, 65, 399, 400} {
		for before := range 900 {
			w := wheel.New()
			idle(t, w, before)
			start(t, w, 5, ahead)
			left(t, w, 5, ahead)
			idle(t, w, ahead-1)
			left(t, w, 5, 1)
			tick(t, w, 5)
			left(t, w, 5, -1)
			idle(t, w, 401)
		}
	}
}

// R13.4: timers that expire together are in increasing order, in whatever order and at whatever times they start.
func TestExpireTogether(t *testing.T) {
	for _, step := range []int{1, 3, 7, 19} {
		w := wheel.New()
		var all []int
		for i := range 20 {
			start(t, w, (i+1)*step%20, 40-i)
			all = append(all, i)
			if i < 19 {
				tick(t, w)
			}
		}
		idle(t, w, 20)
		for id := range 20 {
			left(t, w, id, 1)
		}
		tick(t, w, all...)
		nothing(t, w)
		idle(t, w, 401)
	}
}

// R13.4: timers that do not expire together are not told together.
func TestExpireApart(t *testing.T) {
	w := wheel.New()
	for id := range 20 {
		start(t, w, id, 400-id/2)
	}
	idle(t, w, 390)
	for pair := 9; pair >= 0; pair-- {
		tick(t, w, 2*pair, 2*pair+1)
	}
	nothing(t, w)
}

// R13.2: a timer that is not running any more may start anew, right after the tick a whole turn ahead too.
func TestStartAnew(t *testing.T) {
	w := wheel.New()
	for range 5 {
		start(t, w, 7, 400)
		left(t, w, 7, 400)
		idle(t, w, 399)
		tick(t, w, 7)
	}
	start(t, w, 7, 400)
	stop(t, w, 7)
	start(t, w, 7, 3)
	left(t, w, 7, 3)
	idle(t, w, 2)
	tick(t, w, 7)
	idle(t, w, 800)
}

// R13.2: the first wrong argument is told even if the timer runs, and nothing changes.
func TestErrorsOfStart(t *testing.T) {
	w := wheel.New()
	start(t, w, 0, 3)
	start(t, w, 19, 400)
	check := func(id, ahead int, want api.Errno) {
		t.Helper()
		if err := w.Start(id, ahead); plain.Told(err) != want {
			t.Errorf("Start(%d, %d) is %v; want %v", id, ahead, err, want)
		}
	}
	wrongAhead := []int{0, -1, -400, 401, 402, 800, 1<<32 + 1, math.MinInt, math.MinInt + 1, math.MaxInt}
	for _, id := range outside {
		for _, ahead := range append([]int{1, 3, 400}, wrongAhead...) {
			check(id, ahead, api.ErrRange)
			left(t, w, id, -1)
		}
	}
	for _, id := range []int{0, 1, 18, 19} {
		for _, ahead := range wrongAhead {
			check(id, ahead, api.ErrRange)
		}
	}
	for _, id := range []int{0, 19} {
		for ahead := 1; ahead <= 400; ahead++ {
			check(id, ahead, api.ErrClash)
		}
	}
	left(t, w, 0, 3)
	left(t, w, 1, -1)
	left(t, w, 18, -1)
	left(t, w, 19, 400)
	idle(t, w, 2)
	check(0, 1, api.ErrClash)
	tick(t, w, 0)
	idle(t, w, 396)
	check(19, 1, api.ErrClash)
	tick(t, w, 19)
	idle(t, w, 401)
}

// R13.3: a stopped timer does not expire, and the others do.
func TestStop(t *testing.T) {
	for gone := range 20 {
		w := wheel.New()
		var others []int
		for id := range 20 {
			start(t, w, id, 4)
			if id != gone {
				others = append(others, id)
			}
		}
		tick(t, w)
		stop(t, w, gone)
		for id := range 20 {
			want := 3
			if id == gone {
				want = -1
			}
			left(t, w, id, want)
		}
		idle(t, w, 2)
		tick(t, w, others...)
		idle(t, w, 401)
	}
}

// R13.3: a timer can be stopped up to its last tick.
func TestStopLast(t *testing.T) {
	w := wheel.New()
	start(t, w, 4, 2)
	tick(t, w)
	stop(t, w, 4)
	nothing(t, w)
	idle(t, w, 401)
}

// R13.3: whatever is not running can't be stopped, and nothing changes.
func TestErrorsOfStop(t *testing.T) {
	w := wheel.New()
	check := func(id int) {
		t.Helper()
		if err := w.Stop(id); plain.Told(err) != api.ErrNone {
			t.Errorf("Stop(%d) is %v; want ErrNone", id, err)
		}
	}
	for id := range 20 {
		check(id)
	}
	start(t, w, 0, 2)
	start(t, w, 1, 3)
	start(t, w, 2, 2)
	stop(t, w, 2)
	check(2)
	for _, id := range outside {
		check(id)
	}
	left(t, w, 0, 2)
	left(t, w, 1, 3)
	tick(t, w)
	tick(t, w, 0)
	check(0)
	left(t, w, 1, 1)
	tick(t, w, 1)
	check(1)
}

// R13.5: what is no timer does not run, and asking changes nothing.
func TestLeft(t *testing.T) {
	w := wheel.New()
	start(t, w, 0, 2)
	start(t, w, 19, 2)
	for range 5 {
		for _, id := range outside {
			left(t, w, id, -1)
		}
		left(t, w, 0, 2)
		left(t, w, 1, -1)
		left(t, w, 19, 2)
	}
	tick(t, w)
	tick(t, w, 0, 19)
}

// R13.4: what Tick returns belongs to the caller.
func TestResultsAreApart(t *testing.T) {
	w := wheel.New()
	for id := range 5 {
		start(t, w, id, 1)
	}
	first := w.Tick()
	for id := 5; id < 10; id++ {
		start(t, w, id, 400)
	}
	_ = append(first[:0], 19, 18, 17, 16, 15, 14, 13, 12)
	for id := 5; id < 10; id++ {
		left(t, w, id, 400)
	}
	idle(t, w, 399)
	kept := slices.Clone(first)
	tick(t, w, 5, 6, 7, 8, 9)
	if !slices.Equal(first, kept) {
		t.Errorf("a later Tick changes an earlier result to %v; want %v", first, kept)
	}
}

// model has for each timer the time at which it expires, or 0 if it does not run.
type model struct {
	now int
	end [20]int
}

// check makes a call on the wheel and on the model: of Tick if ahead is negative, of Stop if it is 0, otherwise of Start.
func (m *model) check(t *testing.T, w *wheel.Wheel, id, ahead int) {
	t.Helper()
	switch {
	case ahead < 0:
		m.now++
		var expired []int
		for id, end := range m.end {
			if end == m.now {
				expired = append(expired, id)
				m.end[id] = 0
			}
		}
		tick(t, w, expired...)
	case ahead == 0:
		want := api.ErrNone
		if m.end[id] > 0 {
			want, m.end[id] = api.OK, 0
		}
		if err := w.Stop(id); plain.Told(err) != want {
			t.Fatalf("Stop(%d) is %v; want %v", id, err, want)
		}
	default:
		want := api.ErrClash
		if m.end[id] == 0 {
			want, m.end[id] = api.OK, m.now+ahead
		}
		if err := w.Start(id, ahead); plain.Told(err) != want {
			t.Fatalf("Start(%d, %d) is %v; want %v", id, ahead, err, want)
		}
	}
	for id, end := range m.end {
		want := -1
		if end > 0 {
			want = end - m.now
		}
		left(t, w, id, want)
	}
}

// R13.2 to R13.5: every row of five calls on two timers, against the model.
func TestShortRows(t *testing.T) {
	calls := [][2]int{{0, -1}, {3, 0}, {8, 0}, {3, 1}, {8, 1}, {3, 2}, {8, 2}, {3, 400}}
	rows := 1
	for range 5 {
		rows *= len(calls)
	}
	for row := range rows {
		w, m := wheel.New(), &model{}
		for range 5 {
			call := calls[row%len(calls)]
			m.check(t, w, call[0], call[1])
			row /= len(calls)
		}
		for range 3 {
			m.check(t, w, 0, -1)
		}
	}
}

// R13.2 to R13.5: long rows of calls that follow a rule without a visible order, against the model.
func TestLongRows(t *testing.T) {
	for _, limit := range []int{1, 5, 30, 100, 400} {
		w, m, seed := wheel.New(), &model{}, uint32(limit)
		for range 20_000 {
			seed = seed*1_664_525 + 1_013_904_223
			id, ahead := int(seed>>8)%20, int(seed>>13)%limit+1
			switch seed >> 29 {
			case 0, 1, 2, 3:
				ahead = -1
			case 4:
				ahead = 0
			}
			m.check(t, w, id, ahead)
		}
	}
}
