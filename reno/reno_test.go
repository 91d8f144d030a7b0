package reno_test

import (
	"strings"
	"testing"

	"ferryhythe/reno"
)

// A row of calls is a text with a letter for each: t is Told, l is Lost, z is Late.
const kinds = "tlz"

// state is what a flow shows of itself.
type state struct{ window, slow int }

// shown is the state of a flow.
func shown(f *reno.Flow) state {
	window, slow := f.Window()
	return state{window, slow}
}

// call makes the calls.
func call(f *reno.Flow, calls string) {
	for _, kind := range calls {
		switch kind {
		case 't':
			f.Told()
		case 'l':
			f.Lost()
		case 'z':
			f.Late()
		default:
			panic("no such call")
		}
	}
}

// after is a new flow behind the calls.
func after(calls string) *reno.Flow {
	f := reno.New()
	call(f, calls)
	return f
}

// told are n calls of Told.
func told(n int) string { return strings.Repeat("t", n) }

// checkState compares the state of a flow with the one it should have.
func checkState(t *testing.T, f *reno.Flow, want state, calls string) {
	t.Helper()
	if got := shown(f); got != want {
		t.Fatalf("after the calls %q, the flow is %v; want %v", calls, got, want)
	}
}

// row is a row of calls, and the state behind it.
type row struct {
	calls string
	want  state
}

// checkRows compares the states behind rows of calls with those that should be.
func checkRows(t *testing.T, rows []row) {
	t.Helper()
	for _, r := range rows {
		checkState(t, after(r.calls), r.want, r.calls)
	}
}

// R16.1 and R16.5
func TestNew(t *testing.T) {
	checkState(t, reno.New(), state{1, 1000}, "")
}

// R16.1 to R16.4: the first calls of a flow. Its first counter never shows, since Lost or Late comes before slow growth.
func TestFirstCalls(t *testing.T) {
	checkRows(t, []row{
		{"t", state{2, 1000}},
		{"tt", state{3, 1000}},
		{"ttt", state{4, 1000}},
		{"l", state{2, 2}},
		{"lt", state{2, 2}},
		{"ltt", state{3, 2}},
		{"z", state{1, 2}},
		{"zt", state{2, 2}},
		{"ztt", state{2, 2}},
		{"zttt", state{3, 2}},
	})
}

// R16.1: every flow has a window of its own.
func TestFlowsAreApart(t *testing.T) {
	first, second := after("ttttttt"), reno.New()
	checkState(t, second, state{1, 1000}, "")
	second.Lost()
	third := reno.New()
	third.Told()
	first.Late()
	for _, c := range []struct {
		name string
		flow *reno.Flow
		want state
	}{
		{"first", first, state{1, 4}},
		{"second", second, state{2, 2}},
		{"third", third, state{2, 1000}},
	} {
		if got := shown(c.flow); got != c.want {
			t.Errorf("the %s flow is %v; want %v", c.name, got, c.want)
		}
	}
}

// R16.2: below the threshold, the window grows by 1 each time, up to the greatest one.
func TestFastGrowth(t *testing.T) {
	f := reno.New()
	for n := range 3000 {
		checkState(t, f, state{min(1+n, 1000), 1000}, told(n))
		f.Told()
	}
}

// R16.2: at the threshold and above, it takes as many calls as the window is large.
func TestSlowGrowth(t *testing.T) {
	// 8 is halved to the threshold 4
	calls := told(7) + "l"
	checkRows(t, []row{
		{calls, state{4, 4}},
		{calls + told(1), state{4, 4}},
		{calls + told(3), state{4, 4}},
		{calls + told(4), state{5, 4}},
		{calls + told(4+4), state{5, 4}},
		{calls + told(4+5), state{6, 4}},
		{calls + told(4+5+5), state{6, 4}},
		{calls + told(4+5+6), state{7, 4}},
	})
	// the same from a window of 1, which the threshold is 3 above
	calls = told(7) + "z"
	checkRows(t, []row{
		{calls, state{1, 4}},
		{calls + told(1), state{2, 4}},
		{calls + told(2), state{3, 4}},
		{calls + told(3), state{4, 4}},
		{calls + told(3+3), state{4, 4}},
		{calls + told(3+4), state{5, 4}},
		{calls + told(3+4+4), state{5, 4}},
		{calls + told(3+4+5), state{6, 4}},
	})
}

// R16.2: slow growth ends at the greatest window too, and goes on as before behind a loss.
func TestSlowGrowthToGreatest(t *testing.T) {
	for _, kind := range []string{"l", "z"} {
		f := after(told(999) + kind)
		if kind == "z" {
			call(f, told(499))
		}
		for window := 500; window < 1000; window++ {
			for n := range window {
				if got := shown(f); got != (state{window, 500}) {
					t.Fatalf("the flow is %v after %d calls with window %d", got, n, window)
				}
				f.Told()
			}
		}
		for n := range 2500 {
			if got := shown(f); got != (state{1000, 500}) {
				t.Fatalf("the flow is %v after %d calls with the greatest window", got, n)
			}
			f.Told()
		}
		f.Lost()
		checkState(t, f, state{500, 500}, "... l")
		call(f, told(499))
		checkState(t, f, state{500, 500}, "... l, 499 times t")
		f.Told()
		checkState(t, f, state{501, 500}, "... l, 500 times t")
	}
}

// R16.3 and R16.4: every window is halved, and rounded down, but the threshold is at least 2.
func TestHalvesOfAllWindows(t *testing.T) {
	half := 0
	for window := 1; window <= 1000; window++ {
		if window%2 == 0 {
			half++
		}
		slow := half
		if window < 4 {
			slow = 2
		}
		calls := told(window - 1)
		checkState(t, after(calls), state{window, 1000}, calls)
		checkState(t, after(calls+"l"), state{slow, slow}, calls+"l")
		checkState(t, after(calls+"z"), state{1, slow}, calls+"z")
	}
}

// R16.3 and R16.4: the threshold comes from the window, not from the threshold before it.
func TestRowsOfLosses(t *testing.T) {
	checkRows(t, []row{
		{"ll", state{2, 2}},
		{"zz", state{1, 2}},
		{"lz", state{1, 2}},
		{"zl", state{2, 2}},
		{told(39) + "l", state{20, 20}},
		{told(39) + "ll", state{10, 10}},
		{told(39) + "lll", state{5, 5}},
		{told(39) + "llll", state{2, 2}},
		{told(39) + "lllll", state{2, 2}},
		{told(39) + "z", state{1, 20}},
		{told(39) + "zz", state{1, 2}},
		{told(39) + "zl", state{2, 2}},
		{told(39) + "lz", state{1, 10}},
		{told(39) + "z" + told(8) + "l", state{4, 4}},
		{told(39) + "z" + told(8) + "z", state{1, 4}},
		{told(39) + "z" + told(19+20) + "l", state{10, 10}},
		{told(39) + "z" + told(19+20+21) + "l", state{11, 11}},
		{told(999) + "llllllll", state{3, 3}},
		{told(999) + "lllllllll", state{2, 2}},
	})
}

// R16.3 and R16.4: both forget the calls that were counted.
func TestCounterIsForgotten(t *testing.T) {
	for counted := range 4 {
		calls := told(7) + "l" + told(counted)
		checkRows(t, []row{
			{calls, state{4, 4}},
			{calls + "l", state{2, 2}},
			{calls + "lt", state{2, 2}},
			{calls + "ltt", state{3, 2}},
			{calls + "ltttt", state{3, 2}},
			{calls + "lttttt", state{4, 2}},
			{calls + "z", state{1, 2}},
			{calls + "zt", state{2, 2}},
			{calls + "ztt", state{2, 2}},
			{calls + "zttt", state{3, 2}},
		})
	}
	// 2 stays 2, and nothing but the counter shows that there was a loss
	checkRows(t, []row{
		{"ltlt", state{2, 2}},
		{"ltltltlt", state{2, 2}},
		{"ltltt", state{3, 2}},
	})
}

// R16.5: asking changes nothing.
func TestAsking(t *testing.T) {
	for _, calls := range []string{"", "ttt", "l", "lt", "z", "ztt", told(999), told(999) + "ltttt"} {
		for _, more := range []string{"t", "tt", "l", "lt", "ltt", "z", "zttt", told(600)} {
			f := after(calls)
			want := shown(f)
			for range 5 {
				checkState(t, f, want, calls)
			}
			call(f, more)
			checkState(t, f, shown(after(calls+more)), calls+more)
		}
	}
}

// grown is the window that so many acknowledgments make of another.
func grown(from state, acks int) int {
	if from.window+acks <= from.slow {
		return from.window + acks
	}
	acks -= max(0, from.slow-from.window)
	window := max(from.window, from.slow)
	// From one window to another it takes the sum of those in between.
	for most := window; window < 1000 && (window+1)*window/2-most*(most-1)/2 <= acks; {
		window++
	}
	return window
}

// model is the state behind the calls, told from the state behind the last loss and the acknowledgments since then.
func model(calls string) state {
	from := state{1, 1000}
	last := strings.LastIndexAny(calls, "lz")
	if last >= 0 {
		slow := model(calls[:last]).window >> 1
		if slow < 2 {
			slow = 2
		}
		from = state{slow, slow}
		if calls[last] == 'z' {
			from.window = 1
		}
	}
	return state{grown(from, len(calls)-last-1), from.slow}
}

// R16.1 to R16.5: every short row of calls, against the model.
func TestShortRows(t *testing.T) {
	var check func(calls string, left int)
	check = func(calls string, left int) {
		checkState(t, after(calls), model(calls), calls)
		if left == 0 {
			return
		}
		for _, kind := range kinds {
			check(calls+string(kind), left-1)
		}
	}
	check("", 9)
	for _, calls := range []string{told(10), told(31) + "l", told(30) + "z" + told(10), told(16) + "l" + told(7), told(996), told(999)} {
		check(calls, 6)
	}
}

// R16.2: all numbers of acknowledgments behind a loss, against the model.
func TestLongGrowth(t *testing.T) {
	for _, start := range []string{"l", "z", told(8) + "l", told(60) + "z", told(700) + "l", told(999) + "z"} {
		f, from := after(start), model(start)
		for n := range 5000 {
			if got, want := shown(f), (state{grown(from, n), from.slow}); got != want {
				t.Fatalf("after the calls %q and %d times t, the flow is %v; want %v", start, n, got, want)
			}
			f.Told()
		}
	}
}

// R16.1 to R16.5: long rows of calls that follow a rule without a visible order, against the model.
func TestLongRows(t *testing.T) {
	for _, seldom := range []uint32{2, 5, 20, 100, 700} {
		f, seed := reno.New(), seldom
		var calls strings.Builder
		for range 2000 {
			seed = seed*1_664_525 + 1_013_904_223
			kind := "t"
			if seed>>8%seldom == 0 {
				kind = kinds[1+seed>>31:][:1]
			}
			call(f, kind)
			calls.WriteString(kind)
			checkState(t, f, model(calls.String()), calls.String())
		}
	}
}
