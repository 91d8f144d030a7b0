package curve_test

import (
	"iter"
	"math"
	"slices"
	"testing"

	"ferryhythe/api"
	"ferryhythe/curve"
	"ferryhythe/plain"
)

// level is a curve of n times the same amount.
func level(amount, n int) []int {
	return slices.Repeat([]int{amount}, n)
}

// curves yields every curve of n amounts, each of them at most greatest.
func curves(n, greatest int) iter.Seq[[]int] {
	return func(yield func([]int) bool) {
		f := make([]int, n)
		for {
			if !yield(slices.Clone(f)) {
				return
			}
			last := n - 1
			for last >= 0 && f[last] == greatest {
				last--
			}
			if last < 0 {
				return
			}
			next := f[last] + 1
			for i := last; i < n; i++ {
				f[i] = next
			}
		}
	}
}

// pairs yields every two curves of the same length, of one to limit amounts, each of them at most greatest.
func pairs(limit, greatest int) iter.Seq2[[]int, []int] {
	return func(yield func([]int, []int) bool) {
		for n := 1; n <= limit; n++ {
			for f := range curves(n, greatest) {
				for g := range curves(n, greatest) {
					if !yield(f, g) {
						return
					}
				}
			}
		}
	}
}

// longPairs yields two curves of the same length again and again, up to the longest ones and the greatest amounts.
func longPairs(count int) iter.Seq2[[]int, []int] {
	return func(yield func([]int, []int) bool) {
		seed := uint32(1)
		next := func(limit int) int {
			seed = seed*1_664_525 + 1_013_904_223
			return int(seed>>8) % limit
		}
		some := func(n int) []int {
			f := make([]int, n)
			greatest := 1 + next(1000)
			for i := range f {
				f[i] = next(greatest + 1)
			}
			slices.Sort(f)
			return f
		}
		for range count {
			n := 1 + next(16)
			if !yield(some(n), some(n)) {
				return
			}
		}
	}
}

// right are curves that Check finds nothing wrong with.
var right = []struct {
	name string
	f    []int
}{
	{"one amount, the least of all", []int{0}},
	{"one amount, the greatest of all", []int{1000}},
	{"one amount", []int{7}},
	{"from the least to the greatest amount", []int{0, 1000}},
	{"a curve that stays", []int{5, 5, 5}},
	{"a curve that stays, and rises at the end", []int{5, 5, 6}},
	{"a curve that rises, and stays", []int{5, 6, 6}},
	{"a curve that begins above 0", []int{3, 9, 27, 81}},
	{"the longest curve", []int{0, 1, 2, 3, 4, 5, 6, 7, 8, 9, 10, 11, 12, 13, 14, 1000}},
	{"the longest curve, the least amounts", level(0, 16)},
	{"the longest curve, the greatest amounts", level(1000, 16)},
}

// wrong are curves with what is wrong with them.
var wrong = []struct {
	name string
	f    []int
	err  api.Errno
}{
	{"nil", nil, api.ErrNone},
	{"empty", []int{}, api.ErrNone},
	{"empty in front of amounts", []int{3, -1}[:0], api.ErrNone},

	{"one amount too many", level(1, 17), api.ErrFull},
	{"many amounts too many", level(1000, 1600), api.ErrFull},
	{"one amount too many, the first negative", append([]int{-1}, level(1, 16)...), api.ErrFull},
	{"one amount too many, the last too great", append(level(1, 16), 1001), api.ErrFull},
	{"one amount too many, the last smaller", append(level(1, 16), 0), api.ErrFull},
	{"one amount too many, all out of range", level(-1, 17), api.ErrFull},

	{"a negative amount", []int{-1}, api.ErrRange},
	{"a negative amount in front of others", []int{-1, 0, 1}, api.ErrRange},
	{"negative amounts that rise", []int{-3, -2, -1}, api.ErrRange},
	{"an amount one too great", []int{1001}, api.ErrRange},
	{"an amount one too great behind others", []int{0, 1000, 1001}, api.ErrRange},
	{"amounts too great that rise", []int{1001, 1002, 1003}, api.ErrRange},
	{"an amount in its lowest bits", []int{2, 1<<32 + 3}, api.ErrRange},
	{"the least amount of all", []int{math.MinInt, 5}, api.ErrRange},
	{"the greatest amount of all", []int{5, math.MaxInt}, api.ErrRange},
	{"from the least to the greatest amount of all", []int{math.MinInt, math.MaxInt}, api.ErrRange},
	{"a negative amount, and a smaller one in front of it", []int{2, 1, -1}, api.ErrRange},
	{"a negative amount at the end", []int{0, 1, 2, -1}, api.ErrRange},
	{"an amount too great behind a smaller one", []int{2, 1, 1001}, api.ErrRange},
	{"an amount too great, and a smaller one behind it", []int{1001, 1}, api.ErrRange},
	{"from the greatest to the least amount of all", []int{math.MaxInt, math.MinInt}, api.ErrRange},
	{"the longest curve, its last amount too great", append(level(1000, 15), 1001), api.ErrRange},

	{"a smaller amount", []int{2, 1}, api.ErrShape},
	{"a much smaller amount", []int{1000, 0}, api.ErrShape},
	{"a smaller amount at the end", []int{0, 1, 2, 3, 2}, api.ErrShape},
	{"a smaller amount behind the first one", []int{1, 0, 1, 2, 3}, api.ErrShape},
	{"a smaller amount in between", []int{0, 4, 3, 4, 5}, api.ErrShape},
	{"smaller than the preceding amount, but not than the first", []int{0, 9, 5}, api.ErrShape},
	{"smaller amounts only", []int{4, 3, 2, 1, 0}, api.ErrShape},
	{"the longest curve, its last amount smaller", append(level(1000, 15), 999), api.ErrShape},
}

// R19.1
func TestCheck(t *testing.T) {
	for _, c := range right {
		if err := curve.Check(c.f); err != nil {
			t.Errorf("%s: Check is %v; want nil", c.name, err)
		}
	}
	for _, c := range wrong {
		if err := curve.Check(c.f); plain.Told(err) != c.err {
			t.Errorf("%s: Check is %v; want %v", c.name, err, c.err)
		}
	}
}

// R19.1: the amounts about the bounds, at every place of curves of every length.
func TestCheckBounds(t *testing.T) {
	for n := 1; n <= 16; n++ {
		for place := range n {
			for amount := -3; amount <= 1003; amount++ {
				want := api.OK
				f := append(level(0, place), level(1000, n-place)...)
				f[place] = amount
				if amount < 0 || amount > 1000 {
					want = api.ErrRange
				}
				if err := curve.Check(f); plain.Told(err) != want {
					t.Fatalf("Check(%v) is %v; want %v", f, err, want)
				}
			}
		}
	}
}

// R19.1: the number of amounts decides before everything else.
func TestCheckNumberOfAmounts(t *testing.T) {
	for n := range 40 {
		for _, amount := range []int{-1, 0, 1000, 1001} {
			want := api.OK
			switch {
			case n == 0:
				want = api.ErrNone
			case n > 16:
				want = api.ErrFull
			case amount == -1 || amount == 1001:
				want = api.ErrRange
			}
			if err := curve.Check(level(amount, n)); plain.Told(err) != want {
				t.Errorf("Check of %d times %d is %v; want %v", n, amount, err, want)
			}
		}
	}
}

// R19.1: every short list of amounts falls where a later amount is below an earlier one.
func TestCheckFalls(t *testing.T) {
	for number := range 5 * 5 * 5 * 5 {
		f := []int{number % 5, number / 5 % 5, number / 25 % 5, number / 125}
		want := api.OK
		for i := range f {
			for _, later := range f[i:] {
				if later < f[i] {
					want = api.ErrShape
				}
			}
		}
		if err := curve.Check(f); plain.Told(err) != want {
			t.Errorf("Check(%v) is %v; want %v", f, err, want)
		}
	}
}

// ends are what the functions with two curves return beside nothing.
var ends = []struct {
	name string
	call func(f, g []int) (nothing bool, err error)
}{
	{"Fold", func(f, g []int) (bool, error) {
		got, err := curve.Fold(f, g)
		return len(got) == 0, err
	}},
	{"Backlog", func(f, g []int) (bool, error) {
		got, err := curve.Backlog(f, g)
		return got == 0, err
	}},
	{"Delay", func(f, g []int) (bool, error) {
		got, err := curve.Delay(f, g)
		return got == 0, err
	}},
	{"Fits", func(f, g []int) (bool, error) {
		got, err := curve.Fits(f, g)
		return !got, err
	}},
}

// checkErrors checks that all functions with two curves report what is wrong with them, and return nothing.
func checkErrors(t *testing.T, name string, f, g []int, want api.Errno) {
	t.Helper()
	for _, e := range ends {
		nothing, err := e.call(f, g)
		if !nothing || plain.Told(err) != want {
			t.Errorf("%s: %s is nothing: %t, error %v; want true, %v", name, e.name, nothing, err, want)
		}
	}
}

// R19.1: what is wrong with the first curve comes before the second one, and both come before their lengths.
func TestErrorsOfTwoCurves(t *testing.T) {
	for _, first := range wrong {
		for _, second := range wrong {
			checkErrors(t, first.name+" and "+second.name, first.f, second.f, first.err)
		}
		for _, second := range right {
			checkErrors(t, first.name+" and "+second.name, first.f, second.f, first.err)
			checkErrors(t, second.name+" and "+first.name, second.f, first.f, first.err)
		}
	}
}

// R19.1: two curves of different lengths.
func TestErrorsOfLengths(t *testing.T) {
	for n := 1; n <= 16; n++ {
		for m := 1; m <= 16; m++ {
			if n != m {
				checkErrors(t, "levels", level(0, n), level(5, m), api.ErrShape)
				checkErrors(t, "levels", level(5, n), level(5, m), api.ErrShape)
				// ErrNone of Delay comes behind it.
				checkErrors(t, "levels", level(6, n), level(5, m), api.ErrShape)
				checkErrors(t, "levels", level(1000, n), level(0, m), api.ErrShape)
			}
		}
		for _, e := range ends {
			if _, err := e.call(level(5, n), level(5, n)); err != nil {
				t.Errorf("%s of two levels of length %d is %v; want nil", e.name, n, err)
			}
		}
	}
	for _, first := range right {
		for _, second := range right {
			if len(first.f) != len(second.f) {
				checkErrors(t, first.name+" and "+second.name, first.f, second.f, api.ErrShape)
			}
		}
	}
}

// checkFold compares what Fold returns with what it should.
func checkFold(t *testing.T, f, g, want []int) {
	t.Helper()
	got, err := curve.Fold(f, g)
	if !slices.Equal(got, want) || err != nil {
		t.Fatalf("Fold(%v, %v) is %v, %v; want %v", f, g, got, err, want)
	}
}

// R19.2
func TestFold(t *testing.T) {
	cases := []struct{ f, g, want []int }{
		// the example of the document
		{[]int{1, 2, 9}, []int{0, 3, 4}, []int{1, 2, 5}},
		{[]int{0, 3, 4}, []int{1, 2, 9}, []int{1, 2, 5}},

		// one time
		{[]int{0}, []int{0}, []int{0}},
		{[]int{3}, []int{4}, []int{7}},
		{[]int{1000}, []int{1000}, []int{2000}},

		// the least at the first, at the last, and at a time in between
		{[]int{0, 9}, []int{0, 5}, []int{0, 5}},
		{[]int{0, 5}, []int{0, 9}, []int{0, 5}},
		{[]int{0, 1, 9}, []int{0, 2, 9}, []int{0, 1, 3}},
		{[]int{0, 0, 8, 8}, []int{0, 3, 3, 9}, []int{0, 0, 3, 3}},

		// what is there at the time 0 is added
		{[]int{2, 9}, []int{3, 4}, []int{5, 6}},
		{[]int{7, 7, 7}, []int{0, 1, 2}, []int{7, 7, 7}},
		{[]int{7, 8, 8}, []int{5, 5, 9}, []int{12, 12, 13}},

		// two rates: the lower one all the time
		{[]int{0, 2, 4, 6, 8}, []int{0, 3, 6, 9, 12}, []int{0, 2, 4, 6, 8}},
		// two latencies: their sum
		{[]int{0, 0, 0, 5, 10}, []int{0, 0, 5, 10, 15}, []int{0, 0, 0, 0, 5}},
		{[]int{0, 0, 5, 10, 15}, []int{0, 0, 5, 10, 15}, []int{0, 0, 0, 5, 10}},
		// a burst with a rate
		{[]int{6, 7, 8, 9}, []int{0, 4, 8, 12}, []int{6, 7, 8, 9}},

		// the longest and the greatest of all
		{level(1000, 16), level(1000, 16), level(2000, 16)},
		{level(0, 16), level(1000, 16), level(1000, 16)},
	}
	for _, c := range cases {
		checkFold(t, c.f, c.g, c.want)
	}
}

// folded finds what Fold returns from every time of one curve with every time of the other one.
func folded(f, g []int) []int {
	least := level(math.MaxInt, len(f))
	for i, a := range f {
		for j, b := range g[:len(g)-i] {
			least[i+j] = min(least[i+j], a+b)
		}
	}
	return least
}

// R19.2
func TestFoldIsLeastOfAll(t *testing.T) {
	for f, g := range pairs(5, 4) {
		checkFold(t, f, g, folded(f, g))
	}
	for f, g := range longPairs(5000) {
		checkFold(t, f, g, folded(f, g))
	}
}

// R19.2: the order does not matter, and a curve that rises to the greatest amount at once changes nothing.
func TestFoldLaws(t *testing.T) {
	for f, g := range longPairs(2000) {
		got, err := curve.Fold(f, g)
		if err != nil {
			t.Fatal(err)
		}
		checkFold(t, g, f, got)
		all := level(1000, len(f))
		all[0] = 0
		checkFold(t, f, all, f)
		checkFold(t, all, f, f)
		checkFold(t, f, level(0, len(f)), level(f[0], len(f)))
	}
}

// checkBacklog compares what Backlog returns with what it should.
func checkBacklog(t *testing.T, came, served []int, want int) {
	t.Helper()
	if got, err := curve.Backlog(came, served); got != want || err != nil {
		t.Fatalf("Backlog(%v, %v) is %d, %v; want %d", came, served, got, err, want)
	}
}

// R19.3
func TestBacklog(t *testing.T) {
	cases := []struct {
		came, served []int
		want         int
	}{
		{[]int{3}, []int{1}, 2},
		{[]int{0}, []int{0}, 0},
		{[]int{5}, []int{5}, 0},
		{[]int{1000}, []int{0}, 1000},

		// never below 0
		{[]int{0}, []int{5}, 0},
		{[]int{0}, []int{1000}, 0},
		{[]int{1, 2, 3}, []int{2, 3, 4}, 0},

		// the most at the first, at the last, and at a time in between
		{[]int{5, 5, 5}, []int{1, 3, 5}, 4},
		{[]int{0, 3, 9}, []int{0, 1, 2}, 7},
		{[]int{1, 8, 9}, []int{0, 2, 8}, 6},
		{[]int{0, 8, 9}, []int{3, 4, 9}, 4},
		{[]int{4, 5, 6}, []int{3, 9, 9}, 1},

		// amounts of different times are not compared
		{[]int{0, 0, 9}, []int{0, 0, 9}, 0},
		{[]int{0, 9, 9}, []int{0, 0, 9}, 9},

		// the longest and the greatest of all
		{level(1000, 16), level(0, 16), 1000},
		{level(0, 16), level(1000, 16), 0},
		{append(level(0, 15), 1000), level(0, 16), 1000},
	}
	for _, c := range cases {
		checkBacklog(t, c.came, c.served, c.want)
	}
}

// R19.3: the backlog is the least number that, added to what is served, is at all times as much as what came.
func TestBacklogIsLeastNumberThatSuffices(t *testing.T) {
	suffices := func(came, served []int, more int) bool {
		for i := range came {
			if served[i]+more < came[i] {
				return false
			}
		}
		return true
	}
	check := func(came, served []int) {
		t.Helper()
		want := 0
		for !suffices(came, served, want) {
			want++
		}
		checkBacklog(t, came, served, want)
	}
	for came, served := range pairs(5, 4) {
		check(came, served)
	}
	for came, served := range longPairs(2000) {
		check(came, served)
	}
}

// checkDelay compares what Delay returns with what it should; -1 is no delay.
func checkDelay(t *testing.T, came, served []int, want int) {
	t.Helper()
	err := api.OK
	if want < 0 {
		want, err = 0, api.ErrNone
	}
	if got, e := curve.Delay(came, served); got != want || plain.Told(e) != err {
		t.Fatalf("Delay(%v, %v) is %d, %v; want %d, %v", came, served, got, e, want, err)
	}
}

// R19.4
func TestDelay(t *testing.T) {
	cases := []struct {
		came, served []int
		want         int
	}{
		{[]int{1, 1}, []int{0, 1}, 1},
		{[]int{0}, []int{0}, 0},
		{[]int{5}, []int{5}, 0},
		{[]int{5}, []int{6}, 0},
		{[]int{1000}, []int{1000}, 0},

		// not enough is ever served
		{[]int{1}, []int{0}, -1},
		{[]int{5}, []int{4}, -1},
		{[]int{0, 0, 1}, []int{0, 0, 0}, -1},
		{[]int{1, 5, 9}, []int{1, 5, 8}, -1},
		{[]int{9, 9, 9}, []int{0, 5, 8}, -1},
		{[]int{0, 0, 1000}, level(999, 3), -1},

		// as much is served is enough
		{[]int{4, 4, 4}, []int{0, 0, 4}, 2},
		{[]int{4, 4, 4}, []int{0, 4, 9}, 1},
		{[]int{4, 4, 4}, []int{0, 3, 9}, 2},

		// served before it came: no delay
		{[]int{0, 0, 3}, []int{3, 3, 3}, 0},
		{[]int{0, 1, 2}, []int{9, 9, 9}, 0},

		// the longest delay at the first, and at a later time
		{[]int{5, 5, 6, 6, 6}, []int{0, 0, 5, 6, 6}, 2},
		{[]int{1, 1, 6, 6, 6}, []int{0, 1, 1, 2, 6}, 2},
		{[]int{1, 2, 3, 4, 4, 4}, []int{1, 1, 1, 2, 3, 4}, 2},
		{[]int{0, 3, 3, 4, 4}, []int{0, 0, 0, 3, 4}, 2},
		{[]int{2, 2, 2, 2, 3}, []int{2, 2, 2, 2, 3}, 0},

		// the longest of all
		{level(1, 16), append(level(0, 15), 1), 15},
		{level(1000, 16), append(level(0, 15), 1000), 15},
		{level(0, 16), level(0, 16), 0},
	}
	for _, c := range cases {
		checkDelay(t, c.came, c.served, c.want)
	}
}

// when is the first time at which a curve has reached an amount, and its length if there is none.
func when(f []int, amount int) int {
	for i, reached := range f {
		if reached >= amount {
			return i
		}
	}
	return len(f)
}

// waited finds the longest delay from every single unit that came, and -1 if one of them is never served.
func waited(came, served []int) int {
	longest := 0
	for unit := 1; unit <= came[len(came)-1]; unit++ {
		end := when(served, unit)
		if end == len(served) {
			return -1
		}
		longest = max(longest, end-when(came, unit))
	}
	return longest
}

// R19.4
func TestDelayIsThatOfAUnit(t *testing.T) {
	for came, served := range pairs(5, 4) {
		checkDelay(t, came, served, waited(came, served))
	}
	for came, served := range longPairs(3000) {
		checkDelay(t, came, served, waited(came, served))
		// Where the most that is served is the most that came, there is a delay in any case.
		served[len(served)-1] = 1000
		checkDelay(t, came, served, waited(came, served))
	}
}

// checkFits compares what Fits returns with what it should.
func checkFits(t *testing.T, came, limit []int, want bool) {
	t.Helper()
	if got, err := curve.Fits(came, limit); got != want || err != nil {
		t.Fatalf("Fits(%v, %v) is %t, %v; want %t", came, limit, got, err, want)
	}
}

// R19.5
func TestFits(t *testing.T) {
	cases := []struct {
		came, limit []int
		want        bool
	}{
		{[]int{0, 2}, []int{0, 1}, false},
		{[]int{0, 1}, []int{0, 1}, true},
		{[]int{0, 0}, []int{0, 1}, true},

		// what there is at the time 0 came in no time
		{[]int{0}, []int{0}, true},
		{[]int{5}, []int{0}, true},
		{[]int{1000}, []int{0}, true},
		{[]int{1000}, []int{1000}, true},
		{[]int{7, 8}, []int{0, 1}, true},
		{[]int{7, 9}, []int{0, 1}, false},
		{level(1000, 16), level(0, 16), true},

		// the curve's amount at the time 0 lets nothing come by itself
		{[]int{0, 5}, []int{4, 4}, false},
		{[]int{0, 4}, []int{4, 4}, true},

		// from the first time, between later ones, and up to the last time
		{[]int{0, 3, 3, 3}, []int{0, 2, 4, 6}, false},
		{[]int{0, 0, 3, 3}, []int{0, 2, 4, 6}, false},
		{[]int{0, 0, 0, 3}, []int{0, 2, 4, 6}, false},
		{[]int{0, 2, 4, 6}, []int{0, 2, 4, 6}, true},
		{[]int{0, 2, 4, 6}, []int{0, 2, 4, 5}, false},
		{[]int{0, 2, 4, 6}, []int{0, 2, 3, 6}, false},
		{[]int{0, 0, 2, 4}, []int{0, 2, 3, 6}, false},
		{[]int{0, 0, 2, 3}, []int{0, 2, 3, 6}, true},
		{[]int{0, 2, 2, 5}, []int{0, 3, 4, 6}, true},
		{[]int{0, 2, 2, 5}, []int{0, 3, 3, 4}, false},
		{[]int{1, 3, 3, 6}, []int{0, 3, 3, 5}, true},

		// a burst, and then a rate
		{[]int{0, 6, 7, 8}, []int{5, 6, 7, 8}, true},
		{[]int{0, 6, 7, 9}, []int{5, 6, 7, 8}, false},
		{[]int{0, 0, 6, 7}, []int{5, 6, 7, 8}, true},
		{[]int{0, 1, 8, 8}, []int{5, 6, 7, 8}, false},

		// the greatest of all
		{[]int{0, 1000}, []int{0, 1000}, true},
		{[]int{0, 1000}, []int{999, 999}, false},
		{append(level(0, 15), 1000), append([]int{0}, level(1000, 15)...), true},
		{append(level(0, 15), 1000), append([]int{0, 999}, level(1000, 14)...), false},
	}
	for _, c := range cases {
		checkFits(t, c.came, c.limit, c.want)
	}
}

// most is the least arrival curve that arrivals conform to: the most that came in any time of each length.
func most(came []int) []int {
	l := make([]int, len(came))
	for long := range came {
		for i, before := range came[:len(came)-long] {
			l[long] = max(l[long], came[i+long]-before)
		}
	}
	return l
}

// below tells whether no amount of a curve is greater than that of another one at the same time.
func below(f, g []int) bool {
	for i := range f {
		if f[i] > g[i] {
			return false
		}
	}
	return true
}

// R19.5: arrivals conform if the curve is nowhere below the most that came, or, put another way, if to fold the
// arrivals with the curve takes nothing away from them.
func TestFitsIsMost(t *testing.T) {
	check := func(came, limit []int) {
		t.Helper()
		want := below(most(came), limit)
		if want != below(came, folded(came, limit)) {
			t.Fatalf("the two models of Fits(%v, %v) differ", came, limit)
		}
		checkFits(t, came, limit, want)
	}
	for came, limit := range pairs(5, 4) {
		check(came, limit)
	}
	for came, limit := range longPairs(3000) {
		check(came, limit)
	}
}

// R19.5: arrivals conform to the most that came, and no longer if the curve has 1 less anywhere.
func TestFitsNarrowly(t *testing.T) {
	for came := range longPairs(2000) {
		limit := most(came)
		checkFits(t, came, limit, true)
		for i := range limit {
			less := slices.Clone(limit)
			less[i]--
			if curve.Check(less) == nil {
				checkFits(t, came, less, false)
			}
		}
	}
}

// Z2: arguments and their spare capacity stay as they are, and results have memory of their own.
func TestMemory(t *testing.T) {
	first, second := []int{1, 2, 9, 77, 78}, []int{0, 3, 4, 87, 88}
	f, g := first[:3], second[:3]
	one, err := curve.Fold(f, g)
	if err != nil {
		t.Fatal(err)
	}
	two, _ := curve.Fold(f, g)
	for _, e := range ends {
		// Delay finds that not enough is served, which must change as little.
		_, _ = e.call(f, g)
		_, _ = e.call(g, f)
		_, _ = e.call(f, f)
	}
	if err := curve.Check(f); err != nil {
		t.Fatal(err)
	}
	one = append(one[:0], 100, 101, 102, 103)
	if !slices.Equal(first, []int{1, 2, 9, 77, 78}) || !slices.Equal(second, []int{0, 3, 4, 87, 88}) {
		t.Errorf("the memory of the arguments is %v and %v", first, second)
	}
	clear(first)
	clear(second)
	if !slices.Equal(two, []int{1, 2, 5}) || !slices.Equal(one, []int{100, 101, 102, 103}) {
		t.Errorf("the results have become %v and %v", one, two)
	}
}

// Z2: both arguments may be the same curve.
func TestSameCurve(t *testing.T) {
	f := []int{0, 1, 3}
	checkFold(t, f, f, []int{0, 1, 2})
	checkBacklog(t, f, f, 0)
	checkDelay(t, f, f, 0)
	checkFits(t, f, f, false)
	f = []int{0, 2, 3}
	checkFits(t, f, f, true)
}
