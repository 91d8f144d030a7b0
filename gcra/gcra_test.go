package gcra_test

import (
	"math"
	"slices"
	"testing"

	"ferryhythe/api"
	"ferryhythe/gcra"
	"ferryhythe/plain"
)

// result is what a call of Come returns.
type result struct {
	conforms bool
	err      api.Errno
}

// What a call of Come can return.
var (
	yes     = result{conforms: true}
	no      = result{}
	noRange = result{err: api.ErrRange}
	noState = result{err: api.ErrState}
)

// arrival is a call of Come, what it returns, and what Next returns behind it.
type arrival struct {
	at   int
	want result
	next int
}

// outside are numbers that are outside of every range from 0 or 1 to most.
func outside(most int) []int {
	return []int{-1, -2, -most, most + 1, most + 2, 2 * most, 1001, 1 << 20, 1<<32 + 1, math.MinInt, math.MinInt + 1, math.MaxInt}
}

// open is a new gate.
func open(t *testing.T, step, slack int) *gcra.Gate {
	t.Helper()
	g, err := gcra.New(step, slack)
	if err != nil || g == nil {
		t.Fatalf("New(%d, %d) is %v, %v; want a gate", step, slack, g, err)
	}
	return g
}

// come makes the calls of Come in their order, and compares what they and Next return.
func come(t *testing.T, g *gcra.Gate, row ...arrival) {
	t.Helper()
	for i, a := range row {
		conforms, err := g.Come(a.at)
		if got := (result{conforms, plain.Told(err)}); got != a.want {
			t.Fatalf("call %d: Come(%d) is %v; want %v", i, a.at, got, a.want)
		}
		if got := g.Next(); got != a.next {
			t.Fatalf("behind call %d: Next is %d; want %d", i, got, a.next)
		}
	}
}

// leak calls Leak, and compares what it returns.
func leak(t *testing.T, step, slack int, times []int, want ...bool) {
	t.Helper()
	got, err := gcra.Leak(step, slack, times)
	if err != nil || !slices.Equal(got, want) {
		t.Fatalf("Leak(%d, %d, %v) is %v, %v; want %v, nil", step, slack, times, got, err, want)
	}
}

// leakFails calls Leak with arguments that are wrong.
func leakFails(t *testing.T, step, slack int, times []int, want api.Errno) {
	t.Helper()
	got, err := gcra.Leak(step, slack, times)
	if len(got) != 0 || plain.Told(err) != want {
		t.Fatalf("Leak(%d, %d, %v) is %v, %v; want [], %v", step, slack, times, got, err, want)
	}
}

// R18.1 and R18.3: of a new gate, the theoretical arrival time is 0.
func TestNew(t *testing.T) {
	for step := 1; step <= 20; step++ {
		for slack := 0; slack <= 100; slack++ {
			if got := open(t, step, slack).Next(); got != 0 {
				t.Fatalf("Next behind New(%d, %d) is %d; want 0", step, slack, got)
			}
		}
	}
}

// wrongNumbers are a step and a tolerance of which at least one is wrong.
func wrongNumbers() [][2]int {
	var pairs [][2]int
	for _, step := range append(outside(20), 0) {
		for _, slack := range append(outside(100), 0, 1, 20, 21, 100) {
			pairs = append(pairs, [2]int{step, slack})
		}
	}
	for _, step := range []int{1, 2, 20} {
		for _, slack := range outside(100) {
			pairs = append(pairs, [2]int{step, slack})
		}
	}
	return pairs
}

// R18.1
func TestErrorsOfNew(t *testing.T) {
	for _, pair := range wrongNumbers() {
		if g, err := gcra.New(pair[0], pair[1]); g != nil || plain.Told(err) != api.ErrRange {
			t.Errorf("New(%d, %d) is %v, %v; want nil, ErrRange", pair[0], pair[1], g, err)
		}
	}
}

// R18.1: every gate has times of its own.
func TestGatesAreApart(t *testing.T) {
	first, second := open(t, 3, 2), open(t, 3, 2)
	come(t, first, arrival{5, yes, 8})
	third := open(t, 7, 0)
	come(t, third, arrival{6, yes, 13})
	come(t, second, arrival{0, yes, 3})
	come(t, first, arrival{5, no, 8}, arrival{6, yes, 11})
	come(t, second, arrival{1, yes, 6})
	come(t, third, arrival{12, no, 13}, arrival{13, yes, 20})
}

// R18.2: the arrivals of R18.4's example.
func TestCome(t *testing.T) {
	come(t, open(t, 3, 2), arrival{0, yes, 3}, arrival{1, yes, 6}, arrival{2, no, 6}, arrival{6, yes, 9})
}

// R18.2: what comes early by the tolerance conforms, and counts from the time at which it was due.
func TestEarly(t *testing.T) {
	come(t, open(t, 10, 4),
		arrival{0, yes, 10},
		arrival{5, no, 10},
		arrival{6, yes, 20},
		arrival{15, no, 20},
		arrival{16, yes, 30},
		arrival{29, yes, 40},
		arrival{40, yes, 50},
	)
}

// R18.2: what comes late counts from when it comes, and nothing is saved up.
func TestLate(t *testing.T) {
	come(t, open(t, 10, 4),
		arrival{7, yes, 17},
		arrival{18, yes, 28},
		arrival{100, yes, 110},
		arrival{100, no, 110},
		arrival{105, no, 110},
		arrival{106, yes, 120},
		arrival{1000, yes, 1010},
		arrival{1000, no, 1010},
	)
}

// R18.2: the tolerance lets so many through at once.
func TestAtOnce(t *testing.T) {
	come(t, open(t, 4, 8),
		arrival{0, yes, 4},
		arrival{0, yes, 8},
		arrival{0, yes, 12},
		arrival{0, no, 12},
		arrival{3, no, 12},
		arrival{4, yes, 16},
		arrival{4, no, 16},
	)
	// one conforms without tolerance, and 100 more with it
	g := open(t, 1, 100)
	for i := range 101 {
		come(t, g, arrival{9, yes, 10 + i})
	}
	come(t, g, arrival{9, no, 110}, arrival{10, yes, 111}, arrival{10, no, 111})
}

// R18.2: for every step and tolerance, the second arrival conforms from step - slack on, and not before.
func TestEveryBound(t *testing.T) {
	for step := 1; step <= 20; step++ {
		for slack := 0; slack <= 100; slack++ {
			for at := range 22 {
				g := open(t, step, slack)
				come(t, g, arrival{0, yes, step})
				if at+slack >= step {
					come(t, g, arrival{at, yes, max(at, step) + step})
				} else {
					come(t, g, arrival{at, no, step})
				}
			}
		}
	}
}

// R18.2: an arrival that does not conform changes only the time of the preceding call.
func TestRefused(t *testing.T) {
	come(t, open(t, 10, 0),
		arrival{20, yes, 30},
		arrival{25, no, 30},
		arrival{24, noState, 30},
		arrival{25, no, 30},
		arrival{29, no, 30},
		arrival{28, noState, 30},
		arrival{20, noState, 30},
		arrival{30, yes, 40},
	)
}

// R18.2: a time outside of its range comes before a time that is past, and changes nothing.
func TestRangeErrorsOfCome(t *testing.T) {
	for _, last := range []int{0, 1, 500, 1000} {
		g := open(t, 3, 2)
		come(t, g, arrival{last, yes, last + 3})
		for _, at := range outside(1000) {
			come(t, g, arrival{at, noRange, last + 3})
		}
		come(t, g, arrival{last, no, last + 3})
		for _, at := range outside(1000) {
			come(t, g, arrival{at, noRange, last + 3})
		}
	}
	come(t, open(t, 3, 2), arrival{-1, noRange, 0}, arrival{1001, noRange, 0}, arrival{0, yes, 3})
}

// R18.2: a time that is past is an error, also if it were too early, and changes nothing.
func TestStateErrorsOfCome(t *testing.T) {
	for _, last := range []int{1, 2, 500, 1000} {
		g := open(t, 3, 5)
		come(t, g, arrival{last, yes, last + 3})
		for at := range last {
			come(t, g, arrival{at, noState, last + 3})
		}
		come(t, g, arrival{last, yes, last + 6})
	}
}

// R18.2: a call with an error is not the preceding call, with an earlier time or a later one.
func TestBehindErrors(t *testing.T) {
	come(t, open(t, 2, 4),
		arrival{10, yes, 12},
		arrival{5, noState, 12},
		arrival{7, noState, 12},
		arrival{1001, noRange, 12},
		arrival{-1, noRange, 12},
		arrival{9, noState, 12},
		arrival{10, yes, 14},
		arrival{11, yes, 16},
	)
}

// R18.3: asking changes nothing.
func TestAsking(t *testing.T) {
	g := open(t, 5, 1)
	for _, a := range []arrival{{3, yes, 8}, {6, no, 8}, {7, yes, 13}, {900, yes, 905}, {899, noState, 905}} {
		come(t, g, a)
		for range 5 {
			if got := g.Next(); got != a.next {
				t.Fatalf("Next is %d; want %d", got, a.next)
			}
		}
	}
}

// R18.4: the document's example.
func TestExample(t *testing.T) {
	leak(t, 3, 2, []int{0, 1, 2, 6}, true, true, false, true)
}

// R18.4: hand-computed rows.
func TestLeak(t *testing.T) {
	leak(t, 1, 0, nil)
	leak(t, 20, 100, []int{})
	leak(t, 20, 0, []int{1000}, true)
	// the bucket contains 0, 10, 9, 5, 4, 14, 0
	leak(t, 10, 4, []int{0, 0, 1, 5, 6, 6, 20}, true, false, false, false, true, false, true)
	// a bucket that was empty for long is not emptier than one that just became empty
	leak(t, 10, 0, []int{500, 509, 510, 900, 901}, true, false, true, true, false)
	// slack itself conforms, one more does not
	leak(t, 4, 8, []int{7, 7, 7, 7, 10, 11, 11}, true, true, true, false, false, true, false)
	leak(t, 1, 0, []int{0, 0, 1, 1, 2, 1000, 1000}, true, false, true, false, true, true, false)
}

// R18.4: so many at once fill the bucket.
func TestLeakAtOnce(t *testing.T) {
	for step := 1; step <= 20; step++ {
		for slack := 0; slack <= 100; slack++ {
			want := make([]bool, 200)
			for i := range want {
				want[i] = i*step <= slack
			}
			leak(t, step, slack, make([]int, 200), want...)
		}
	}
}

// R18.4: a wrong step or tolerance comes before everything else.
func TestRangeErrorsOfLeak(t *testing.T) {
	for _, pair := range wrongNumbers() {
		for _, times := range [][]int{nil, {1, 2}, {2, 1}, {-1}, make([]int, 201)} {
			leakFails(t, pair[0], pair[1], times, api.ErrRange)
		}
	}
}

// R18.4: too many times come before wrong ones among them.
func TestFullErrorsOfLeak(t *testing.T) {
	for _, n := range []int{201, 202, 1000, 100_000} {
		times := make([]int, n)
		leakFails(t, 3, 2, times, api.ErrFull)
		times[0] = -1
		leakFails(t, 3, 2, times, api.ErrFull)
		times[0] = 5
		leakFails(t, 3, 2, times, api.ErrFull)
		times[0], times[n-1] = 0, 1001
		leakFails(t, 3, 2, times, api.ErrFull)
	}
	times := make([]int, 200)
	times[199] = 1001
	leakFails(t, 3, 2, times, api.ErrRange)
	times[0], times[199] = 1, 0
	leakFails(t, 3, 2, times, api.ErrState)
}

// R18.4: a wrong time is an error wherever it stands, and the first one decides.
func TestTimeErrorsOfLeak(t *testing.T) {
	for _, at := range outside(1000) {
		for _, times := range [][]int{{at}, {at, 0}, {0, at}, {1000, at}, {3, 4, at, 2}, {at, 5, 4}} {
			leakFails(t, 3, 2, times, api.ErrRange)
		}
		for _, times := range [][]int{{1, 0, at}, {1000, 999, at}, {3, 4, 3, at, 5}} {
			leakFails(t, 3, 2, times, api.ErrState)
		}
	}
	for _, times := range [][]int{{1, 0}, {1000, 999}, {1000, 0}, {0, 1, 2, 1}, {5, 5, 4, 6}} {
		leakFails(t, 3, 2, times, api.ErrState)
	}
	// of the arrivals at 20, 25 and 24, the second does not conform, but its time counts
	leakFails(t, 10, 0, []int{20, 25, 24}, api.ErrState)
}

// Z2: Leak leaves the times and the memory behind them as they are, and every result is new.
func TestLeakKeepsApart(t *testing.T) {
	memory := []int{0, 1, 2, 6, 77, 78}
	before := slices.Clone(memory)
	first, _ := gcra.Leak(3, 2, memory[:4])
	second, _ := gcra.Leak(3, 2, memory[:4])
	if !slices.Equal(memory, before) {
		t.Errorf("Leak changed its times to %v", memory)
	}
	clear(first[:cap(first)])
	if want := []bool{true, true, false, true}; !slices.Equal(second, want) {
		t.Errorf("the result of a call changes with another: %v", second)
	}
}

// model remembers the times of all arrivals that conformed, and the last time.
type model struct {
	step, slack int
	conformed   []int
	since       int
}

// next is the theoretical arrival time without going step by step: from each arrival that conformed on, step ticks
// have to pass for it and for each later one, and the strictest of these demands holds.
func (m *model) next() int {
	next := 0
	for i, at := range m.conformed {
		next = max(next, at+m.step*(len(m.conformed)-i))
	}
	return next
}

// come is what a call of Come should return.
func (m *model) come(at int) result {
	if at < 0 || at > 1000 {
		return noRange
	}
	if at < m.since {
		return noState
	}
	m.since = at
	if m.next()-at > m.slack {
		return no
	}
	m.conformed = append(m.conformed, at)
	return yes
}

// checkRow compares a gate, and a bucket that leaks, with the model.
func checkRow(t *testing.T, step, slack int, row []int) {
	t.Helper()
	g, m := open(t, step, slack), &model{step: step, slack: slack}
	var right []int
	var conform []bool
	wrong := api.OK
	for _, at := range row {
		want := m.come(at)
		come(t, g, arrival{at, want, m.next()})
		if want.err == api.OK {
			right, conform = append(right, at), append(conform, want.conforms)
		} else if wrong == api.OK {
			wrong = want.err
		}
	}
	leak(t, step, slack, right, conform...)
	if wrong != api.OK {
		leakFails(t, step, slack, row, wrong)
	}
}

// R18.1 to R18.4: all rows of five small times, against the model.
func TestShortRows(t *testing.T) {
	const times, length = 7, 5
	rows := 1
	for range length {
		rows *= times
	}
	for _, kind := range [][2]int{{1, 0}, {1, 2}, {2, 0}, {2, 1}, {2, 3}, {3, 2}, {4, 5}} {
		for number := range rows {
			row := make([]int, length)
			for i := range row {
				// -1 is among the times too
				row[i] = number%times - 1
				number /= times
			}
			checkRow(t, kind[0], kind[1], row)
		}
	}
}

// R18.1 to R18.4: long rows of times that follow a rule without a visible order, against the model.
func TestLongRows(t *testing.T) {
	seed := uint32(18)
	below := func(n int) int {
		seed = seed*1_664_525 + 1_013_904_223
		return int(seed>>8) % n
	}
	for i := range 400 {
		step, slack := 1+below(20), below(101)
		gap, at := 1+below(2*step), 0
		row := make([]int, 150)
		for j := range row {
			at += below(gap)
			row[j] = at
			// in every other row, now and then a time is past or too large
			if i%2 == 1 && below(9) == 0 {
				row[j] += []int{-1, -2, -20, 1000}[below(4)]
			}
		}
		checkRow(t, step, slack, row)
	}
}

// Z1: the methods of what New returns with an error do not panic, and do nothing.
func TestNilGate(t *testing.T) {
	g, _ := gcra.New(0, 5)
	come(t, g, arrival{5, no, 0}, arrival{4, no, 0}, arrival{0, no, 0}, arrival{1000, no, 0})
	come(t, g, arrival{-1, noRange, 0}, arrival{1001, noRange, 0})
}
