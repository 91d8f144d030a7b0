package serial_test

import (
	"math"
	"testing"

	"ferryhythe/api"
	"ferryhythe/plain"
	"ferryhythe/serial"
)

// strangers are no serial numbers.
var strangers = []int{-1, 256, -256, 257, 1000, math.MinInt, math.MinInt + 1, math.MaxInt}

// R2.1
func TestAdd(t *testing.T) {
	cases := []struct {
		a, n int
		want int
		err  api.Errno
	}{
		{250, 10, 4, api.OK},
		{0, 0, 0, api.OK},
		{255, 0, 255, api.OK},
		{255, 1, 0, api.OK},
		{254, 1, 255, api.OK},
		{0, 127, 127, api.OK},
		{128, 127, 255, api.OK},
		{129, 127, 0, api.OK},
		{255, 127, 126, api.OK},
		{0, 128, 0, api.ErrRange},
		{0, -1, 0, api.ErrRange},
		{5, -1, 0, api.ErrRange},
		{5, 255, 0, api.ErrRange},
		{5, 256, 0, api.ErrRange},
		{-1, 1, 0, api.ErrRange},
		{256, 0, 0, api.ErrRange},
		{256, 128, 0, api.ErrRange},
		{math.MaxInt, math.MaxInt, 0, api.ErrRange},
		{math.MinInt, math.MinInt, 0, api.ErrRange},
		{1, math.MaxInt, 0, api.ErrRange},
		{1, math.MinInt, 0, api.ErrRange},
	}
	for _, c := range cases {
		got, err := serial.Add(c.a, c.n)
		if got != c.want || plain.Told(err) != c.err {
			t.Errorf("Add(%d, %d) is %d, %v; want %d, %v", c.a, c.n, got, err, c.want, c.err)
		}
	}
	for _, a := range strangers {
		if got, err := serial.Add(a, 1); got != 0 || plain.Told(err) != api.ErrRange {
			t.Errorf("Add(%d, 1) is %d, %v; want 0, ErrRange", a, got, err)
		}
	}
}

// R2.1: counting step by step leads to the same number.
func TestAddCounts(t *testing.T) {
	for a := range 256 {
		want := a
		for n := range 128 {
			if got, err := serial.Add(a, n); got != want || err != nil {
				t.Fatalf("Add(%d, %d) is %d, %v; want %d", a, n, got, err, want)
			}
			want = next(want)
		}
	}
}

// next is the serial number one step after a.
func next(a int) int {
	if a == 255 {
		return 0
	}
	return a + 1
}

// R2.2
func TestLess(t *testing.T) {
	cases := []struct {
		a, b       int
		less, told bool
	}{
		{1, 2, true, true},
		{2, 1, false, true},
		{0, 0, false, true},
		{255, 255, false, true},
		{0, 1, true, true},
		{0, 127, true, true},
		{0, 128, false, false},
		{0, 129, false, true},
		{0, 255, false, true},
		{255, 0, true, true},
		{255, 126, true, true},
		{255, 127, false, false},
		{255, 128, false, true},
		{128, 0, false, false},
		{129, 0, true, true},
		{127, 0, false, true},
		{200, 72, false, false},
		{200, 71, true, true},
		{200, 73, false, true},
	}
	for _, c := range cases {
		less, told, err := serial.Less(c.a, c.b)
		if less != c.less || told != c.told || err != nil {
			t.Errorf("Less(%d, %d) is %t, %t, %v; want %t, %t", c.a, c.b, less, told, err, c.less, c.told)
		}
	}
}

// R2.2: of every pair, going from a step by step until b is reached.
func TestLessCounts(t *testing.T) {
	for a := range 256 {
		b := a
		for n := range 256 {
			less, told, err := serial.Less(a, b)
			if less != (n >= 1 && n <= 127) || told != (n != 128) || err != nil {
				t.Fatalf("Less(%d, %d) is %t, %t, %v; %d steps", a, b, less, told, err, n)
			}
			b = next(b)
		}
	}
}

// R2.2
func TestLessErrors(t *testing.T) {
	check := func(a, b int) {
		less, told, err := serial.Less(a, b)
		if less || told || plain.Told(err) != api.ErrRange {
			t.Errorf("Less(%d, %d) is %t, %t, %v; want false, false, ErrRange", a, b, less, told, err)
		}
	}
	for _, s := range strangers {
		for _, a := range []int{0, 1, 100, 255} {
			check(a, s)
			check(s, a)
		}
		check(s, s)
	}
}

// R2.3
func TestWhole(t *testing.T) {
	cases := []struct {
		a, expected int
		want        int
		err         api.Errno
	}{
		{4, 250, 260, api.OK},
		{0, 0, 0, api.OK},
		{250, 260, 250, api.OK},
		{4, 4, 4, api.OK},
		{4, 260, 260, api.OK},
		{4, 259, 260, api.OK},
		{4, 261, 260, api.OK},
		{4, 132, 260, api.OK},
		{4, 131, 4, api.OK},
		{4, 133, 260, api.OK},
		{0, 128, 256, api.OK},
		{0, 127, 0, api.OK},
		{128, 0, 128, api.OK},
		{129, 0, 129, api.OK},
		{255, 0, 255, api.OK},
		{255, 126, 255, api.OK},
		{255, 127, 255, api.OK},
		{250, 10, 250, api.OK},
		{255, 256, 255, api.OK},
		{0, 255, 256, api.OK},
		{0, 256, 256, api.OK},
		{255, 382, 255, api.OK},
		{255, 383, 511, api.OK},
		{160, 100_000, 100_000, api.OK},
		{32, 100_000, 100_128, api.OK},
		{33, 100_000, 99_873, api.OK},
		{31, 100_000, 100_127, api.OK},
		{0, 100_001, 0, api.ErrRange},
		{0, -1, 0, api.ErrRange},
		{255, -1, 0, api.ErrRange},
		{256, 100_001, 0, api.ErrRange},
		{-1, -1, 0, api.ErrRange},
		{7, math.MaxInt, 0, api.ErrRange},
		{7, math.MinInt, 0, api.ErrRange},
		{math.MaxInt, math.MinInt, 0, api.ErrRange},
	}
	for _, c := range cases {
		got, err := serial.Whole(c.a, c.expected)
		if got != c.want || plain.Told(err) != c.err {
			t.Errorf("Whole(%d, %d) is %d, %v; want %d, %v", c.a, c.expected, got, err, c.want, c.err)
		}
	}
	for _, a := range strangers {
		if got, err := serial.Whole(a, 256); got != 0 || plain.Told(err) != api.ErrRange {
			t.Errorf("Whole(%d, 256) is %d, %v; want 0, ErrRange", a, got, err)
		}
	}
}

// R2.3: no other candidate is nearer, nor as near and larger.
func TestWholeIsNearest(t *testing.T) {
	const count = 1000
	for _, from := range []int{0, api.MaxRound - count + 1} {
		for i := range 256 * count {
			a, expected := i/count, from+i%count
			got, err := serial.Whole(a, expected)
			if want := nearest(a, expected); got != want || err != nil {
				t.Fatalf("Whole(%d, %d) is %d, %v; want %d", a, expected, got, err, want)
			}
		}
	}
}

// nearest tries every integer that is congruent to a, up to one that is too large.
func nearest(a, expected int) int {
	best := a
	for n := a; n <= expected+256; n += 256 {
		if distance(n, expected) <= distance(best, expected) {
			best = n
		}
	}
	return best
}

func distance(a, b int) int {
	return max(a-b, b-a)
}
