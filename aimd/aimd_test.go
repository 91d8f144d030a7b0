package aimd_test

import (
	"iter"
	"math"
	"slices"
	"testing"

	"ferryhythe/aimd"
	"ferryhythe/api"
	"ferryhythe/plain"
)

// same are n rates, all equal to rate.
func same(rate, n int) []int {
	return slices.Repeat([]int{rate}, n)
}

// flows yields every list of one to limit rates, each of them at most greatest.
func flows(limit, greatest int) iter.Seq[[]int] {
	return func(yield func([]int) bool) {
		lists := [][]int{nil}
		for range limit {
			var longer [][]int
			for _, l := range lists {
				for rate := range greatest + 1 {
					longer = append(longer, append(slices.Clone(l), rate))
				}
			}
			for _, l := range longer {
				if !yield(slices.Clone(l)) {
					return
				}
			}
			lists = longer
		}
	}
}

// right are rates and capacities that Check finds nothing wrong with.
var right = []struct {
	name string
	l    []int
	room int
}{
	{"one flow, the least of all", []int{0}, 1},
	{"one flow, the greatest of all", []int{1000}, 1000},
	{"the greatest rate, the least capacity", []int{1000}, 1},
	{"the least rate, the greatest capacity", []int{0}, 1000},
	{"two flows", []int{8, 0}, 7},
	{"most flows", []int{1, 2, 3, 4, 5}, 10},
	{"most flows, the least rates", same(0, 5), 1},
	{"most flows, far too much for the link", same(1000, 5), 1},
	{"most flows, the greatest of all", same(1000, 5), 1000},
}

// wrong are rates and capacities with what is wrong with them.
var wrong = []struct {
	name string
	l    []int
	room int
	err  api.Errno
}{
	{"nil", nil, 1, api.ErrNone},
	{"no flow", []int{}, 1000, api.ErrNone},
	{"no flow in front of some", []int{3, -1}[:0], 10, api.ErrNone},
	{"one flow too many", same(1, 6), 10, api.ErrFull},
	{"many flows too many", same(1000, 600), 1000, api.ErrFull},

	{"no flow, no capacity", nil, 0, api.ErrNone},
	{"no flow, a negative capacity", []int{}, -1, api.ErrNone},
	{"no flow, too great a capacity", nil, 1001, api.ErrNone},
	{"one flow too many, no capacity", same(1, 6), 0, api.ErrFull},
	{"one flow too many, too great a capacity", same(1, 6), 1001, api.ErrFull},
	{"one flow too many, a negative rate", []int{-1, 2, 3, 4, 5, 6}, 10, api.ErrFull},
	{"one flow too many, the last rate too great", []int{1, 2, 3, 4, 5, 1001}, 10, api.ErrFull},
	{"one flow too many, everything out of range", same(-1, 6), -1, api.ErrFull},

	{"a negative rate", []int{-1}, 10, api.ErrRange},
	{"a negative rate behind others", []int{1, 2, 3, 4, -1}, 10, api.ErrRange},
	{"a negative rate in between", []int{1, 2, -1, 4, 5}, 10, api.ErrRange},
	{"a negative rate, but not in sum", []int{5, -1}, 10, api.ErrRange},
	{"a rate one too great", []int{1001}, 1000, api.ErrRange},
	{"a rate one too great behind others", []int{1, 2, 3, 4, 1001}, 10, api.ErrRange},
	{"a rate one too great in front of others", []int{1001, 2, 3, 4, 5}, 10, api.ErrRange},
	{"a rate in its lowest bits", []int{1<<32 + 2}, 10, api.ErrRange},
	{"the least rate of all", []int{5, math.MinInt}, 10, api.ErrRange},
	{"the greatest rate of all", []int{math.MaxInt, 5}, 10, api.ErrRange},
	{"rates whose sum goes round", []int{math.MaxInt, math.MaxInt, 2}, 10, api.ErrRange},

	{"no capacity", []int{0}, 0, api.ErrRange},
	{"no capacity, most flows", same(5, 5), 0, api.ErrRange},
	{"a negative capacity", []int{5}, -1, api.ErrRange},
	{"a capacity one too great", []int{5}, 1001, api.ErrRange},
	{"a capacity in its lowest bits", []int{5}, 1<<32 + 7, api.ErrRange},
	{"the least capacity of all", []int{5}, math.MinInt, api.ErrRange},
	{"the greatest capacity of all", []int{5}, math.MaxInt, api.ErrRange},
	{"neither a rate nor a capacity", []int{-1}, 0, api.ErrRange},
}

// R15.1
func TestCheck(t *testing.T) {
	for _, c := range right {
		if err := aimd.Check(c.l, c.room); err != nil {
			t.Errorf("%s: Check is %v; want nil", c.name, err)
		}
	}
	for _, c := range wrong {
		if err := aimd.Check(c.l, c.room); plain.Told(err) != c.err {
			t.Errorf("%s: Check is %v; want %v", c.name, err, c.err)
		}
	}
}

// R15.1: all capacities about their bounds, and as many numbers as rates at each place of each number of flows.
func TestCheckBounds(t *testing.T) {
	for n := -5; n <= 1005; n++ {
		want := api.ErrRange
		if 1 <= n && n <= 1000 {
			want = api.OK
		}
		if err := aimd.Check([]int{5}, n); plain.Told(err) != want {
			t.Errorf("Check of capacity %d is %v; want %v", n, err, want)
		}
		if n == 0 {
			want = api.OK
		}
		for count := 1; count <= 5; count++ {
			for place := range count {
				l := same(5, count)
				l[place] = n
				if err := aimd.Check(l, 10); plain.Told(err) != want {
					t.Errorf("Check(%v) is %v; want %v", l, err, want)
				}
			}
		}
	}
}

// R15.1: the number of flows decides before everything else.
func TestCheckNumberOfFlows(t *testing.T) {
	for n := range 20 {
		for _, rate := range []int{-1, 0, 1000, 1001} {
			for _, room := range []int{-1, 0, 1, 1000, 1001} {
				want := api.OK
				switch {
				case n == 0:
					want = api.ErrNone
				case n > 5:
					want = api.ErrFull
				case rate == -1 || rate == 1001 || room < 1 || room == 1001:
					want = api.ErrRange
				}
				if err := aimd.Check(same(rate, n), room); plain.Told(err) != want {
					t.Errorf("Check of %d flows with rate %d and capacity %d is %v; want %v", n, rate, room, err, want)
				}
			}
		}
	}
}

// checkRun compares what Run returns with what it should.
func checkRun(t *testing.T, l []int, room, steps int, want []int, halvings int) {
	t.Helper()
	got, n, err := aimd.Run(l, room, steps)
	if !slices.Equal(got, want) || n != halvings || err != nil {
		t.Fatalf("Run(%v, %d, %d) is %v, %d, %v; want %v, %d", l, room, steps, got, n, err, want, halvings)
	}
}

// R15.2
func TestRun(t *testing.T) {
	cases := []struct {
		l           []int
		room, steps int
		want        []int
		halvings    int
	}{
		// the example of the document, step by step
		{[]int{8, 0}, 7, 0, []int{8, 0}, 0},
		{[]int{8, 0}, 7, 1, []int{4, 0}, 1},
		{[]int{8, 0}, 7, 2, []int{5, 1}, 1},
		{[]int{8, 0}, 7, 3, []int{6, 2}, 1},
		{[]int{8, 0}, 7, 4, []int{3, 1}, 2},

		// a sum that is the capacity does not exceed it
		{[]int{1}, 5, 4, []int{5}, 0},
		{[]int{1}, 5, 5, []int{6}, 0},
		{[]int{1}, 5, 6, []int{3}, 1},
		{[]int{1}, 5, 7, []int{4}, 1},
		{[]int{3, 4}, 7, 1, []int{4, 5}, 0},
		{[]int{4, 4}, 7, 1, []int{2, 2}, 1},

		// every single rate is rounded down, not their sum
		{[]int{7, 5}, 10, 1, []int{3, 2}, 1},
		{[]int{1, 1, 1}, 2, 1, []int{0, 0, 0}, 1},
		{[]int{3, 2, 1, 0, 9}, 14, 1, []int{1, 1, 0, 0, 4}, 1},

		// the sum decides, not one rate
		{[]int{2, 2, 2, 2, 2}, 9, 1, []int{1, 1, 1, 1, 1}, 1},
		{[]int{9, 0, 0, 0, 0}, 9, 1, []int{10, 1, 1, 1, 1}, 0},

		// several halvings in a row
		{same(1000, 5), 1000, 2, same(250, 5), 2},
		{same(1000, 5), 1000, 3, same(125, 5), 3},
		{same(1000, 5), 1000, 4, same(126, 5), 3},
		{same(1000, 5), 1, 10, same(0, 5), 10},
		{same(1000, 5), 1, 11, same(1, 5), 10},
		{same(1000, 5), 1, 13, same(1, 5), 11},

		// a rate may exceed the greatest one that may be given
		{[]int{1000}, 1000, 1, []int{1001}, 0},
		{[]int{1000}, 1000, 2, []int{500}, 1},
		{[]int{1000, 0}, 1000, 1, []int{1001, 1}, 0},
		{[]int{1000, 0}, 1000, 2, []int{500, 0}, 1},
		{[]int{1000, 1}, 1000, 1, []int{500, 0}, 1},

		// the least of all, and most steps
		{[]int{0}, 1, 0, []int{0}, 0},
		{[]int{0}, 1, 1, []int{1}, 0},
		{[]int{0}, 1, 2, []int{2}, 0},
		{[]int{0}, 1, 3, []int{1}, 1},
		{[]int{0}, 1, 1000, []int{2}, 499},
		{same(0, 5), 1, 1, same(1, 5), 0},
		{same(0, 5), 1, 1000, same(0, 5), 500},
		{[]int{0}, 1000, 1000, []int{1000}, 0},
		{[]int{1}, 1000, 1000, []int{1001}, 0},
		{[]int{2}, 1000, 1000, []int{500}, 1},

		// the flows keep their order
		{[]int{3, 1, 2}, 100, 3, []int{6, 4, 5}, 0},
		{[]int{40, 10, 20}, 50, 1, []int{20, 5, 10}, 1},
	}
	for _, c := range cases {
		checkRun(t, c.l, c.room, c.steps, c.want, c.halvings)
	}
}

// model finds what Run returns with all steps between two halvings at once.
func model(l []int, room, steps int) (rates []int, halvings int) {
	rates = slices.Clone(l)
	for steps > 0 {
		left := room
		for _, rate := range rates {
			left -= rate
		}
		if left < 0 {
			for i := range rates {
				rates[i] -= (rates[i] + 1) / 2
			}
			halvings++
			steps--
			continue
		}
		up := min(steps, left/len(rates)+1)
		for i := range rates {
			rates[i] += up
		}
		steps -= up
	}
	return rates, halvings
}

// R15.2
func TestRunIsModel(t *testing.T) {
	for l := range flows(3, 6) {
		for room := 1; room <= 14; room++ {
			for steps := range 20 {
				want, halvings := model(l, room, steps)
				checkRun(t, l, room, steps, want, halvings)
			}
		}
	}
}

// R15.2
func TestLongRunIsModel(t *testing.T) {
	seed := uint32(1)
	next := func(limit int) int {
		seed = seed*1664525 + 1013904223
		return int(seed>>8) % limit
	}
	for range 3000 {
		l := make([]int, 1+next(5))
		for i := range l {
			l[i] = next(1001)
		}
		room, steps := 1+next(1000), next(1001)
		want, halvings := model(l, room, steps)
		checkRun(t, l, room, steps, want, halvings)
	}
}

// R15.2: every number of steps is one step more than the one before it.
func TestRunStepByStep(t *testing.T) {
	rates, halvings := []int{700, 30, 5, 0, 1}, 0
	for steps := range 1001 {
		checkRun(t, []int{700, 30, 5, 0, 1}, 200, steps, rates, halvings)
		more, n, err := aimd.Run(rates, 200, 1)
		if err != nil {
			t.Fatal(err)
		}
		rates, halvings = more, halvings+n
	}
}

// R15.2: a number of steps is judged after everything else.
func TestErrorsOfRun(t *testing.T) {
	outside := []int{-1, -2, -1000, 1001, 1002, 1<<32 + 2, math.MinInt, math.MaxInt}
	for _, c := range wrong {
		for _, steps := range append([]int{0, 1, 1000}, outside...) {
			l, n, err := aimd.Run(c.l, c.room, steps)
			if len(l) > 0 || n != 0 || plain.Told(err) != c.err {
				t.Errorf("%s: Run with %d steps is %v, %d, %v; want none, 0, %v", c.name, steps, l, n, err, c.err)
			}
		}
	}
	for _, c := range right {
		for _, steps := range outside {
			l, n, err := aimd.Run(c.l, c.room, steps)
			if len(l) > 0 || n != 0 || plain.Told(err) != api.ErrRange {
				t.Errorf("%s: Run with %d steps is %v, %d, %v; want none, 0, ErrRange", c.name, steps, l, n, err)
			}
		}
	}
}

// R15.2: all numbers of steps about their bounds.
func TestRunBounds(t *testing.T) {
	for steps := -5; steps <= 1005; steps++ {
		want := api.ErrRange
		if 0 <= steps && steps <= 1000 {
			want = api.OK
		}
		if _, _, err := aimd.Run([]int{5, 6}, 30, steps); plain.Told(err) != want {
			t.Errorf("Run with %d steps is %v; want %v", steps, err, want)
		}
	}
}

// R15.3
func TestApart(t *testing.T) {
	cases := []struct {
		l    []int
		want int
	}{
		{[]int{3, 1}, 2},
		{[]int{1, 3}, 2},
		{[]int{0}, 0},
		{[]int{1000}, 0},
		{same(7, 5), 0},
		{[]int{0, 1000}, 1000},
		{[]int{1000, 0}, 1000},
		{[]int{5, 1000, 5, 0, 5}, 1000},
		{[]int{5, 4, 3, 9, 8}, 6},
		{[]int{1000, 999, 1000, 1000, 1000}, 1},
	}
	for _, c := range cases {
		if got, err := aimd.Apart(c.l); got != c.want || err != nil {
			t.Errorf("Apart(%v) is %d, %v; want %d", c.l, got, err, c.want)
		}
	}
}

// R15.3: no two rates are further apart, and some two are so far.
func TestApartIsGreatestDifference(t *testing.T) {
	for l := range flows(5, 4) {
		want := 0
		for _, a := range l {
			for _, b := range l {
				want = max(want, a-b)
			}
		}
		if got, err := aimd.Apart(l); got != want || err != nil {
			t.Fatalf("Apart(%v) is %d, %v; want %d", l, got, err, want)
		}
	}
}

// R15.3: it reports what is wrong with the rates, and nothing else.
func TestErrorsOfApart(t *testing.T) {
	for _, c := range wrong {
		want := plain.Told(aimd.Check(c.l, 1))
		got, err := aimd.Apart(c.l)
		if plain.Told(err) != want || want != api.OK && got != 0 {
			t.Errorf("%s: Apart(%v) is %d, %v; want 0, %v", c.name, c.l, got, err, want)
		}
	}
	cases := []struct {
		l   []int
		err api.Errno
	}{
		{nil, api.ErrNone},
		{[]int{}, api.ErrNone},
		{same(0, 6), api.ErrFull},
		{same(-1, 6), api.ErrFull},
		{[]int{-1}, api.ErrRange},
		{[]int{5, 1001}, api.ErrRange},
		{[]int{1001, 1001, 1001, 1001, 1001}, api.ErrRange},
		{[]int{math.MinInt, math.MaxInt}, api.ErrRange},
	}
	for _, c := range cases {
		if got, err := aimd.Apart(c.l); got != 0 || plain.Told(err) != c.err {
			t.Errorf("Apart(%v) is %d, %v; want 0, %v", c.l, got, err, c.err)
		}
	}
}

// Z2: arguments and their spare capacity stay as they are, and results have memory of their own, also without steps.
func TestMemory(t *testing.T) {
	for _, steps := range []int{0, 1, 2, 9, 1000, 1001} {
		memory := []int{8, 0, 3, 77, 78}
		l := memory[:3]
		if err := aimd.Check(l, 9); err != nil {
			t.Fatal(err)
		}
		if _, err := aimd.Apart(l); err != nil {
			t.Fatal(err)
		}
		first, _, _ := aimd.Run(l, 9, steps)
		second, _, _ := aimd.Run(l, 9, steps)
		want := slices.Clone(second)
		first = append(first[:0], 100, 101, 102, 103)
		if before := []int{8, 0, 3, 77, 78}; !slices.Equal(memory, before) {
			t.Errorf("with %d steps, the memory of the argument is %v; want %v", steps, memory, before)
		}
		clear(memory)
		if !slices.Equal(second, want) || !slices.Equal(first, []int{100, 101, 102, 103}) {
			t.Errorf("with %d steps, the results have become %v and %v", steps, first, second)
		}
	}
}

// R15.2: a run does not depend on the runs before it.
func TestRunsAreApart(t *testing.T) {
	for l := range flows(3, 4) {
		if _, _, err := aimd.Run(l, 3, 4); err != nil {
			t.Fatal(err)
		}
		checkRun(t, []int{8, 0}, 7, 4, []int{3, 1}, 2)
	}
}
