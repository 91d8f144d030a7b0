package bucket_test

import (
	"math"
	"testing"

	"ferryhythe/api"
	"ferryhythe/bucket"
	"ferryhythe/plain"
)

// call is a call of Take.
type call struct{ at, n int }

// result is what a call of Take returns.
type result struct {
	taken bool
	err   api.Errno
}

// state is what a bucket shows of itself.
type state struct{ has, since int }

// What a call of Take can return.
var (
	yes     = result{taken: true}
	no      = result{}
	noRange = result{err: api.ErrRange}
	noState = result{err: api.ErrState}
)

// wrong are numbers that are outside of every range from 0 to most.
func wrong(most int) []int {
	return []int{-1, -2, -100, most + 1, most + 2, 2 * most, 1001, 1 << 20, 1<<32 + 1, math.MinInt, math.MinInt + 1, math.MaxInt}
}

// open is a new bucket.
func open(t *testing.T, rate, deep int) *bucket.Bucket {
	t.Helper()
	b, err := bucket.New(rate, deep)
	if err != nil || b == nil {
		t.Fatalf("New(%d, %d) is %v, %v; want a bucket", rate, deep, b, err)
	}
	return b
}

// take makes a call of Take, and compares what it returns and what the bucket then shows.
func take(t *testing.T, b *bucket.Bucket, c call, want result, then state) {
	t.Helper()
	taken, err := b.Take(c.at, c.n)
	if got := (result{taken, plain.Told(err)}); got != want {
		t.Fatalf("Take(%d, %d) is %v; want %v", c.at, c.n, got, want)
	}
	shows(t, b, then)
}

// shows compares what Has returns with what it should.
func shows(t *testing.T, b *bucket.Bucket, want state) {
	t.Helper()
	has, since := b.Has()
	if got := (state{has, since}); got != want {
		t.Fatalf("Has is %v; want %v", got, want)
	}
}

// step is a call of Take, what it returns, and what Has returns behind it.
type step struct {
	call call
	want result
	then state
}

// steps takes the steps with a new bucket.
func steps(t *testing.T, rate, deep int, row []step) {
	t.Helper()
	b := open(t, rate, deep)
	for _, s := range row {
		take(t, b, s.call, s.want, s.then)
	}
}

// R17.1 and R17.3: a new bucket is full at time 0.
func TestNew(t *testing.T) {
	for rate := 0; rate <= 20; rate++ {
		for deep := 0; deep <= 100; deep++ {
			shows(t, open(t, rate, deep), state{deep, 0})
		}
	}
}

// R17.1
func TestErrorsOfNew(t *testing.T) {
	check := func(rate, deep int) {
		t.Helper()
		if b, err := bucket.New(rate, deep); b != nil || plain.Told(err) != api.ErrRange {
			t.Errorf("New(%d, %d) is %v, %v; want nil, ErrRange", rate, deep, b, err)
		}
	}
	for _, rate := range wrong(20) {
		for _, deep := range []int{0, 1, 20, 21, 100} {
			check(rate, deep)
		}
		for _, deep := range wrong(100) {
			check(rate, deep)
		}
	}
	for _, deep := range wrong(100) {
		for _, rate := range []int{0, 1, 20} {
			check(rate, deep)
		}
	}
}

// R17.1: every bucket has tokens and a time of its own.
func TestBucketsAreApart(t *testing.T) {
	first, second := open(t, 2, 5), open(t, 2, 5)
	take(t, first, call{3, 4}, yes, state{1, 3})
	third := open(t, 1, 7)
	take(t, third, call{2, 7}, yes, state{0, 2})
	shows(t, second, state{5, 0})
	take(t, second, call{0, 2}, yes, state{3, 0})
	shows(t, first, state{1, 3})
	take(t, first, call{4, 0}, yes, state{3, 4})
	shows(t, third, state{0, 2})
}

// R17.2: the document's example.
func TestExample(t *testing.T) {
	steps(t, 2, 5, []step{
		{call{0, 5}, yes, state{0, 0}},
		{call{1, 3}, no, state{2, 1}},
		{call{2, 4}, yes, state{0, 2}},
	})
}

// R17.2: what is refused removes no tokens, but the time advances, and the bucket gains.
func TestRefused(t *testing.T) {
	steps(t, 3, 10, []step{
		{call{0, 11}, no, state{10, 0}},
		{call{0, 100}, no, state{10, 0}},
		{call{0, 8}, yes, state{2, 0}},
		{call{0, 3}, no, state{2, 0}},
		{call{1, 6}, no, state{5, 1}},
		{call{0, 1}, noState, state{5, 1}},
		{call{1, 5}, yes, state{0, 1}},
		{call{2, 4}, no, state{3, 2}},
		{call{3, 7}, no, state{6, 3}},
		{call{2, 1}, noState, state{6, 3}},
		{call{9, 11}, no, state{10, 9}},
		{call{9, 10}, yes, state{0, 9}},
	})
}

// R17.2: the tokens of one time can be taken bit by bit, and the bucket gains none meanwhile.
func TestSameTime(t *testing.T) {
	steps(t, 20, 9, []step{
		{call{0, 4}, yes, state{5, 0}},
		{call{0, 4}, yes, state{1, 0}},
		{call{0, 2}, no, state{1, 0}},
		{call{0, 1}, yes, state{0, 0}},
		{call{0, 1}, no, state{0, 0}},
		{call{0, 0}, yes, state{0, 0}},
		{call{1, 4}, yes, state{5, 1}},
		{call{1, 6}, no, state{5, 1}},
		{call{1, 5}, yes, state{0, 1}},
		{call{1, 0}, yes, state{0, 1}},
	})
}

// R17.2: what exceeds the depth is lost, and not taken up later.
func TestOverflow(t *testing.T) {
	steps(t, 4, 10, []step{
		{call{50, 0}, yes, state{10, 50}},
		{call{50, 10}, yes, state{0, 50}},
		{call{50, 1}, no, state{0, 50}},
		{call{52, 0}, yes, state{8, 52}},
		{call{53, 0}, yes, state{10, 53}},
		{call{53, 10}, yes, state{0, 53}},
		{call{54, 5}, no, state{4, 54}},
		{call{1000, 3}, yes, state{7, 1000}},
		{call{1000, 8}, no, state{7, 1000}},
	})
}

// R17.2: without a rate nothing comes back, and without depth there is nothing to take.
func TestZeros(t *testing.T) {
	steps(t, 0, 5, []step{
		{call{10, 3}, yes, state{2, 10}},
		{call{900, 3}, no, state{2, 900}},
		{call{1000, 2}, yes, state{0, 1000}},
		{call{1000, 0}, yes, state{0, 1000}},
	})
	steps(t, 20, 0, []step{
		{call{0, 0}, yes, state{0, 0}},
		{call{0, 1}, no, state{0, 0}},
		{call{1000, 1}, no, state{0, 1000}},
		{call{1000, 0}, yes, state{0, 1000}},
	})
	steps(t, 0, 0, []step{
		{call{5, 1}, no, state{0, 5}},
		{call{5, 0}, yes, state{0, 5}},
	})
}

// R17.2: of every depth, so many tokens can be taken and no more.
func TestAllDepths(t *testing.T) {
	for deep := 0; deep <= 100; deep++ {
		for n := 0; n <= 100; n++ {
			b := open(t, 7, deep)
			if n <= deep {
				take(t, b, call{0, n}, yes, state{deep - n, 0})
			} else {
				take(t, b, call{0, n}, no, state{deep, 0})
			}
		}
	}
}

// R17.2: an empty bucket gains by every rate and over every time, whether at once or tick by tick.
func TestAllGains(t *testing.T) {
	for rate := 0; rate <= 20; rate++ {
		for _, deep := range []int{0, 1, 2, 19, 20, 21, 99, 100} {
			slow := open(t, rate, deep)
			take(t, slow, call{0, deep}, yes, state{0, 0})
			has := 0
			for at := 1; at <= 1000; at++ {
				for range rate {
					if has < deep {
						has++
					}
				}
				take(t, slow, call{at, 0}, yes, state{has, at})
				b := open(t, rate, deep)
				take(t, b, call{0, deep}, yes, state{0, 0})
				take(t, b, call{at, has}, yes, state{0, at})
			}
		}
	}
}

// R17.2: a time or a number outside of its range comes before a time that is past, and changes nothing.
func TestRangeErrorsOfTake(t *testing.T) {
	for _, last := range []int{0, 1, 500, 1000} {
		b := open(t, 3, 50)
		take(t, b, call{last, 30}, yes, state{20, last})
		for _, at := range wrong(1000) {
			for _, n := range append(wrong(100), 0, 1, 100) {
				take(t, b, call{at, n}, noRange, state{20, last})
			}
		}
		for _, n := range wrong(100) {
			for _, at := range []int{0, 1, 499, 500, 501, 1000} {
				take(t, b, call{at, n}, noRange, state{20, last})
			}
		}
		take(t, b, call{last, 20}, yes, state{0, last})
	}
}

// R17.2: a time that is past is an error for every number, and changes nothing.
func TestStateErrorsOfTake(t *testing.T) {
	for _, last := range []int{1, 2, 500, 1000} {
		b := open(t, 3, 50)
		take(t, b, call{last, 30}, yes, state{20, last})
		for at := range last {
			for _, n := range []int{0, 1, 20, 21, 50, 100} {
				take(t, b, call{at, n}, noState, state{20, last})
			}
		}
		take(t, b, call{last, 20}, yes, state{0, last})
	}
}

// R17.2: behind an error, the bucket gains from the last time that was right.
func TestGainBehindErrors(t *testing.T) {
	steps(t, 2, 100, []step{
		{call{10, 100}, yes, state{0, 10}},
		{call{20, 101}, noRange, state{0, 10}},
		{call{5, 0}, noState, state{0, 10}},
		{call{1001, 0}, noRange, state{0, 10}},
		{call{-1, 0}, noRange, state{0, 10}},
		{call{13, 0}, yes, state{6, 13}},
		{call{14, -1}, noRange, state{6, 13}},
		{call{14, 0}, yes, state{8, 14}},
	})
}

// R17.3: asking changes nothing.
func TestAsking(t *testing.T) {
	b := open(t, 2, 9)
	for _, s := range []step{
		{call{0, 0}, yes, state{9, 0}},
		{call{4, 8}, yes, state{1, 4}},
		{call{6, 6}, no, state{5, 6}},
	} {
		take(t, b, s.call, s.want, s.then)
		for range 5 {
			shows(t, b, s.then)
		}
	}
	take(t, b, call{7, 7}, yes, state{0, 7})
}

// model remembers all that was taken, and since when.
type model struct {
	rate, deep int
	taken      []call
	since      int
}

// has is the number of tokens at a time that is not past. From each time s on, there are no more than a full bucket and
// what it gains, less all that was taken at s or later; and there are as many as the strictest s allows.
func (m *model) has(at int) int {
	least := math.MaxInt
	for s := range at + 1 {
		has := m.deep + m.rate*(at-s)
		for _, c := range m.taken {
			if c.at >= s {
				has -= c.n
			}
		}
		least = min(least, has)
	}
	return least
}

// take is what a call of Take should return.
func (m *model) take(c call) result {
	if c.at < 0 || c.at > 1000 || c.n < 0 || c.n > 100 {
		return noRange
	}
	if c.at < m.since {
		return noState
	}
	m.since = c.at
	if c.n > m.has(c.at) {
		return no
	}
	m.taken = append(m.taken, c)
	return yes
}

// checkTake makes a call of Take, and compares it with the model.
func checkTake(t *testing.T, b *bucket.Bucket, m *model, c call) {
	t.Helper()
	want := m.take(c)
	take(t, b, c, want, state{m.has(m.since), m.since})
}

// R17.1 to R17.3: all rows of four calls with small numbers, against the model.
func TestShortRows(t *testing.T) {
	const times, numbers, length = 4, 5, 4
	rows := 1
	for range length {
		rows *= times * numbers
	}
	for _, kind := range []struct{ rate, deep int }{{0, 3}, {1, 2}, {2, 3}} {
		for row := range rows {
			b, m := open(t, kind.rate, kind.deep), &model{rate: kind.rate, deep: kind.deep}
			for left, i := row, 0; i < length; left, i = left/(times*numbers), i+1 {
				// -1 is among the numbers too
				checkTake(t, b, m, call{left % times, left/times%numbers - 1})
			}
		}
	}
}

// R17.1 to R17.3: long rows of calls that follow a rule without a visible order, against the model.
func TestLongRows(t *testing.T) {
	seed := uint32(17)
	next := func(below int) int {
		seed = seed*1_664_525 + 1_013_904_223
		return int(seed>>8) % below
	}
	for range 200 {
		rate, deep := next(21), next(101)
		b, m := open(t, rate, deep), &model{rate: rate, deep: deep}
		steps, largest := []int{2, 4, 20}[next(3)], []int{5, 30, 104}[next(3)]
		for range 100 {
			// now and then a step leads back
			checkTake(t, b, m, call{m.since + next(steps+1) - next(2), next(largest) - 1})
		}
	}
}

// Z1: the methods of what New returns with an error do not panic, and do nothing.
func TestNilBucket(t *testing.T) {
	b, _ := bucket.New(-1, 5)
	shows(t, b, state{})
	for _, c := range []call{{5, 0}, {5, 1}, {0, 0}, {1000, 100}} {
		take(t, b, c, no, state{})
	}
	for _, c := range []call{{-1, 0}, {1001, 0}, {0, -1}, {0, 101}} {
		take(t, b, c, noRange, state{})
	}
}
