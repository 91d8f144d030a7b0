package ring_test

import (
	"cmp"
	"math"
	"slices"
	"testing"

	"ferryhythe/api"
	"ferryhythe/plain"
	"ferryhythe/ring"
)

// same are n stations at which the same number of frames waits.
func same(frames, n int) []int {
	return slices.Repeat([]int{frames}, n)
}

// right are stations that Check finds nothing wrong with.
var right = []struct {
	name  string
	waits []int
}{
	{"one station without frames", []int{0}},
	{"one station with one frame", []int{1}},
	{"one station with as many frames as may be", []int{20}},
	{"as many stations as there may be, without frames", same(0, 8)},
	{"as many stations as there may be, with one frame each", same(1, 8)},
	{"as many stations as there may be, with as many frames as may be", same(20, 8)},
	{"several numbers", []int{20, 0, 1, 19, 0, 7}},
}

// wrong are stations with what is wrong with them.
var wrong = []struct {
	name  string
	waits []int
	err   api.Errno
}{
	{"nil", nil, api.ErrNone},
	{"no stations", []int{}, api.ErrNone},
	{"no stations, with room for some", make([]int, 0, 9), api.ErrNone},

	{"one station too many", same(0, 9), api.ErrFull},
	{"many stations too many", same(1, 1000), api.ErrFull},
	{"one station too many, the first out of range", append([]int{-1}, same(1, 8)...), api.ErrFull},
	{"one station too many, the last out of range", append(same(1, 8), 21), api.ErrFull},
	{"one station too many, all out of range", same(-1, 9), api.ErrFull},

	{"-1 frames", []int{-1}, api.ErrRange},
	{"one frame too many", []int{21}, api.ErrRange},
	{"the least number of all", []int{math.MinInt}, api.ErrRange},
	{"the greatest number of all", []int{math.MaxInt}, api.ErrRange},
	{"a number of frames in its lowest bits", []int{1<<32 + 3}, api.ErrRange},
	{"the first out of range", []int{-1, 2, 3}, api.ErrRange},
	{"the last out of range", []int{1, 2, 21}, api.ErrRange},
	{"the last one of as many as there may be out of range", append(same(20, 7), 21), api.ErrRange},
	{"all out of range", same(-1, 8), api.ErrRange},
}

// wrongHolds are what none may send in one turn.
var wrongHolds = []int{math.MinInt, -1 << 32, -21, -20, -2, -1, 0, 21, 22, 1<<32 + 3, math.MaxInt}

// checkCheck checks what Check returns.
func checkCheck(t *testing.T, name string, waits []int, want api.Errno) {
	t.Helper()
	if err := ring.Check(waits); plain.Told(err) != want {
		t.Errorf("%s: Check(%v) is %v; want %v", name, waits, err, want)
	}
}

// checkErrors checks that Run and Gap return an error and nothing else.
func checkErrors(t *testing.T, name string, waits []int, hold int, want api.Errno) {
	t.Helper()
	if order, err := ring.Run(waits, hold); len(order) != 0 || plain.Told(err) != want {
		t.Errorf("%s: Run(%v, %d) is %v, %v; want nothing, %v", name, waits, hold, order, err, want)
	}
	if gap, err := ring.Gap(waits, hold); gap != 0 || plain.Told(err) != want {
		t.Errorf("%s: Gap(%v, %d) is %d, %v; want 0, %v", name, waits, hold, gap, err, want)
	}
}

// checkRun checks what Run returns.
func checkRun(t *testing.T, waits []int, hold int, want ...int) {
	t.Helper()
	order, err := ring.Run(waits, hold)
	if !slices.Equal(order, want) || err != nil {
		t.Fatalf("Run(%v, %d) is %v, %v; want %v", waits, hold, order, err, want)
	}
}

// checkGap checks what Gap returns.
func checkGap(t *testing.T, waits []int, hold, want int) {
	t.Helper()
	gap, err := ring.Gap(waits, hold)
	if gap != want || err != nil {
		t.Fatalf("Gap(%v, %d) is %d, %v; want %d", waits, hold, gap, err, want)
	}
}

// R28.1
func TestCheck(t *testing.T) {
	for _, c := range right {
		checkCheck(t, c.name, c.waits, api.OK)
	}
	for _, c := range wrong {
		checkCheck(t, c.name, c.waits, c.err)
	}
}

// R28.1: every number of stations about the bounds, and every number of frames about the bounds at every station.
func TestCheckBounds(t *testing.T) {
	for n := range 20 {
		want := api.OK
		if n == 0 {
			want = api.ErrNone
		} else if n > 8 {
			want = api.ErrFull
		}
		checkCheck(t, "number of stations", same(5, n), want)
	}
	for n := 1; n <= 8; n++ {
		for station := range n {
			for frames := -30; frames <= 50; frames++ {
				waits := same(20, n)
				waits[station] = frames
				want := api.OK
				if frames < 0 || frames > 20 {
					want = api.ErrRange
				}
				checkCheck(t, "number of frames", waits, want)
			}
		}
	}
}

// R28.2 and R28.3: what is wrong with the stations comes before hold.
func TestErrors(t *testing.T) {
	for _, c := range wrong {
		for _, hold := range append([]int{1, 7, 20}, wrongHolds...) {
			checkErrors(t, c.name, c.waits, hold, c.err)
		}
	}
	for _, c := range right {
		for _, hold := range wrongHolds {
			checkErrors(t, c.name, c.waits, hold, api.ErrRange)
		}
	}
}

// R28.2 and R28.3: every hold that may be.
func TestHolds(t *testing.T) {
	for _, c := range right {
		for hold := 1; hold <= 20; hold++ {
			order, err := ring.Run(c.waits, hold)
			if sum := total(c.waits); len(order) != sum || err != nil {
				t.Errorf("%s: Run(%v, %d) is %v, %v; want %d frames", c.name, c.waits, hold, order, err, sum)
			}
			if _, err := ring.Gap(c.waits, hold); err != nil {
				t.Errorf("%s: Gap(%v, %d) is %v", c.name, c.waits, hold, err)
			}
		}
	}
}

// total is how many frames wait at all stations.
func total(waits []int) (sum int) {
	for _, frames := range waits {
		sum += frames
	}
	return sum
}

// R28.2
func TestRun(t *testing.T) {
	// the example of the document
	checkRun(t, []int{3, 1}, 2, 0, 0, 1, 0)

	// nothing to send
	checkRun(t, []int{0}, 1)
	checkRun(t, same(0, 8), 20)

	// one station has the token again at once
	checkRun(t, []int{1}, 1, 0)
	checkRun(t, []int{1}, 20, 0)
	checkRun(t, []int{5}, 1, 0, 0, 0, 0, 0)
	checkRun(t, []int{5}, 4, 0, 0, 0, 0, 0)

	// the token starts at station 0, and goes on to the next one
	checkRun(t, []int{1, 1, 1}, 1, 0, 1, 2)
	checkRun(t, []int{1, 1, 1}, 20, 0, 1, 2)
	checkRun(t, []int{2, 2, 2}, 1, 0, 1, 2, 0, 1, 2)
	checkRun(t, same(1, 8), 7, 0, 1, 2, 3, 4, 5, 6, 7)

	// who has nothing to send passes the token on, and counts
	checkRun(t, []int{0, 1}, 1, 1)
	checkRun(t, []int{0, 2, 0, 0, 3, 0}, 1, 1, 4, 1, 4, 4)
	checkRun(t, []int{0, 0, 0, 0, 0, 0, 0, 3}, 2, 7, 7, 7)
	checkRun(t, []int{1, 3, 2}, 1, 0, 1, 2, 1, 2, 1)
	checkRun(t, []int{3, 1, 2}, 1, 0, 1, 2, 0, 2, 0)

	// just as many as hold, one more, one less
	checkRun(t, []int{3, 3}, 3, 0, 0, 0, 1, 1, 1)
	checkRun(t, []int{4, 3}, 3, 0, 0, 0, 1, 1, 1, 0)
	checkRun(t, []int{3, 4}, 3, 0, 0, 0, 1, 1, 1, 1)
	checkRun(t, []int{2, 4}, 3, 0, 0, 1, 1, 1, 1)
	checkRun(t, []int{6, 1}, 3, 0, 0, 0, 1, 0, 0, 0)

	// what a station did not use of its hold does not remain for its next turn
	checkRun(t, []int{7, 1, 5}, 3, 0, 0, 0, 1, 2, 2, 2, 0, 0, 0, 2, 2, 0)
	checkRun(t, []int{1, 5, 0, 2}, 2, 0, 1, 1, 3, 3, 1, 1, 1)

	// a large hold lets each station send everything
	checkRun(t, []int{2, 0, 3, 1}, 20, 0, 0, 2, 2, 2, 3)
	checkRun(t, []int{20, 20}, 20, append(same(0, 20), same(1, 20)...)...)
	checkRun(t, []int{20, 1}, 19, append(same(0, 19), 1, 0)...)
}

// R28.3
func TestGap(t *testing.T) {
	checkGap(t, []int{3, 1}, 2, 1)

	// no station sends two frames
	checkGap(t, []int{0}, 1, 0)
	checkGap(t, []int{1}, 20, 0)
	checkGap(t, same(0, 8), 1, 0)
	checkGap(t, same(1, 8), 1, 0)

	// nobody else sends, or not between two frames of one station
	checkGap(t, []int{20}, 1, 0)
	checkGap(t, []int{0, 20, 0}, 3, 0)
	checkGap(t, []int{20, 20, 20}, 20, 0)
	checkGap(t, []int{1, 20}, 3, 0)
	checkGap(t, []int{2, 20}, 2, 0)

	// all others send as much as they may
	checkGap(t, []int{2, 2}, 1, 1)
	checkGap(t, same(20, 8), 1, 7)
	checkGap(t, same(20, 8), 3, 21)
	checkGap(t, same(20, 8), 19, 133)
	checkGap(t, []int{4, 3}, 3, 3)
	checkGap(t, []int{20, 19}, 19, 19)
	checkGap(t, []int{2, 20, 20}, 1, 2)

	// a station counts what others send in this round behind it and in the next one in front of it
	checkGap(t, []int{4, 0, 4}, 2, 2)
	checkGap(t, []int{1, 0, 2}, 1, 0)
	checkGap(t, []int{2, 0, 2}, 1, 1)
	checkGap(t, []int{6, 1, 7}, 6, 0)
	checkGap(t, []int{7, 2, 7}, 6, 8)
	checkGap(t, []int{1, 9, 3}, 2, 2)

	// the largest gap at the beginning, at the end, and in the middle; that of the first, of the last, and of another station
	checkGap(t, []int{5, 1, 1}, 1, 2)
	checkGap(t, []int{3, 1, 1, 1}, 2, 3)
	checkGap(t, []int{1, 3, 1, 1}, 2, 2)
	checkGap(t, []int{1, 1, 3, 1}, 2, 1)
	checkGap(t, []int{1, 1, 1, 3}, 2, 0)
	checkGap(t, []int{0, 4, 4, 5, 1}, 3, 7)
	checkGap(t, []int{5, 2, 5, 0, 5}, 4, 10)

	// what lies between frames that are not consecutive does not count
	checkGap(t, []int{3, 3}, 1, 1)
	checkGap(t, []int{20, 1, 1}, 10, 2)
}

// sendings finds what Run returns without a token: of each station every hold frames make up a round.
func sendings(waits []int, hold int) []int {
	type frame struct{ round, station int }
	var frames []frame
	for station, n := range waits {
		for i := range n {
			frames = append(frames, frame{i / hold, station})
		}
	}
	slices.SortFunc(frames, func(f, g frame) int {
		return cmp.Or(cmp.Compare(f.round, g.round), cmp.Compare(f.station, g.station))
	})
	var order []int
	for _, f := range frames {
		order = append(order, f.station)
	}
	return order
}

// longest finds what Gap returns without any order: from the last frame of a station in a round to its first one in the next, those behind it send what they have for that round, and those in front of it what they have for the next one.
func longest(waits []int, hold int) (gap int) {
	share := func(station, round int) int {
		return min(hold, max(0, waits[station]-round*hold))
	}
	for station := range waits {
		for round := 0; share(station, round+1) > 0; round++ {
			others := 0
			for other := range waits {
				if other > station {
					others += share(other, round)
				} else if other < station {
					others += share(other, round+1)
				}
			}
			gap = max(gap, others)
		}
	}
	return gap
}

// checkModel compares Run and Gap with their models.
func checkModel(t *testing.T, waits []int, hold int) {
	t.Helper()
	checkRun(t, waits, hold, sendings(waits, hold)...)
	checkGap(t, waits, hold, longest(waits, hold))
}

// R28.2 and R28.3: all numbers of few frames at up to four stations.
func TestFew(t *testing.T) {
	for n := 1; n <= 4; n++ {
		most := []int{0, 20, 20, 8, 5}[n]
		waits := make([]int, n)
		for {
			for hold := 1; hold <= most+1 && hold <= 20; hold++ {
				checkModel(t, waits, hold)
			}
			if !count(waits, most) {
				break
			}
		}
	}
}

// count raises the number that the digits of a list make up, and tells whether there is such a number.
func count(digits []int, most int) bool {
	for i := range digits {
		if digits[i] < most {
			digits[i]++
			return true
		}
		digits[i] = 0
	}
	return false
}

// R28.2 and R28.3: many stations, with every hold.
func TestMany(t *testing.T) {
	for seed := range uint32(2000) {
		next := func(limit int) int {
			seed = seed*1_664_525 + 1_013_904_223
			return int(seed>>8) % limit
		}
		waits := make([]int, 1+next(8))
		most := 1 + next(20)
		for station := range waits {
			waits[station] = next(most + 1)
		}
		for hold := 1; hold <= 20; hold++ {
			checkModel(t, waits, hold)
		}
	}
}

// Z2: arguments and their spare capacity stay as they are, and results have memory of their own.
func TestMemory(t *testing.T) {
	memory := []int{77, 3, 1, 2, 78, 79}
	waits := memory[1:4]
	one, err := ring.Run(waits, 2)
	if err != nil {
		t.Fatal(err)
	}
	two, _ := ring.Run(waits, 2)
	checkGap(t, waits, 2, 3)
	checkCheck(t, "good stations", waits, api.OK)
	checkErrors(t, "no hold", waits, 0, api.ErrRange)
	one = append(one[:0], 100, 101, 102, 103, 104, 105, 106)
	if !slices.Equal(memory, []int{77, 3, 1, 2, 78, 79}) {
		t.Errorf("the memory of the argument is %v", memory)
	}
	clear(memory)
	if !slices.Equal(two, []int{0, 0, 1, 2, 2, 0}) || !slices.Equal(one, []int{100, 101, 102, 103, 104, 105, 106}) {
		t.Errorf("the results have become %v and %v", one, two)
	}
}

// Z2: a call does not depend on those before it.
func TestAgain(t *testing.T) {
	for range 3 {
		checkRun(t, []int{3, 1}, 2, 0, 0, 1, 0)
		checkGap(t, []int{3, 1}, 2, 1)
		checkErrors(t, "no stations", nil, 2, api.ErrNone)
		checkRun(t, []int{1, 2}, 1, 0, 1, 1)
		checkGap(t, []int{1, 2}, 1, 0)
		checkErrors(t, "one frame too many", []int{1, 21}, 2, api.ErrRange)
	}
}
