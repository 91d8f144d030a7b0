package retry_test

import (
	"math"
	"slices"
	"testing"

	"ferryhythe/api"
	"ferryhythe/plain"
	"ferryhythe/retry"
)

// same is a pick that is taken n times.
func same(pick, n int) []int {
	return slices.Repeat([]int{pick}, n)
}

// checkWindow checks what Window returns.
func checkWindow(t *testing.T, met, want int, wantErr api.Errno) {
	t.Helper()
	size, err := retry.Window(met)
	if size != want || plain.Told(err) != wantErr {
		t.Errorf("Window(%d) is %d, %v; want %d, %v", met, size, err, want, wantErr)
	}
}

// checkRun checks what Run returns.
func checkRun(t *testing.T, n int, picks, who, slots []int) {
	t.Helper()
	gotWho, gotSlots, err := retry.Run(n, picks)
	if !slices.Equal(gotWho, who) || !slices.Equal(gotSlots, slots) || err != nil {
		t.Fatalf("Run(%d, %v) is %v, %v, %v; want %v, %v", n, picks, gotWho, gotSlots, err, who, slots)
	}
}

// checkNoRun checks that Run returns an error and nothing else.
func checkNoRun(t *testing.T, name string, n int, picks []int, want api.Errno) {
	t.Helper()
	who, slots, err := retry.Run(n, picks)
	if len(who) != 0 || len(slots) != 0 || plain.Told(err) != want {
		t.Errorf("%s: Run(%d, %v) is %v, %v, %v; want nothing, %v", name, n, picks, who, slots, err, want)
	}
}

// R29.1
func TestWindow(t *testing.T) {
	for met, want := range []int{1, 2, 4, 8, 16, 32, 64, 128, 256, 512, 1024, 1024, 1024} {
		checkWindow(t, met, want, api.OK)
	}
	for met := 10; met <= 200; met++ {
		checkWindow(t, met, 1024, api.OK)
	}
}

// R29.1
func TestWindowErrors(t *testing.T) {
	for met := -300; met < 0; met++ {
		checkWindow(t, met, 0, api.ErrRange)
	}
	for met := 201; met < 2000; met++ {
		checkWindow(t, met, 0, api.ErrRange)
	}
	for _, met := range []int{math.MinInt, -1 << 32, 1 << 32, 1<<32 + 3, math.MaxInt} {
		checkWindow(t, met, 0, api.ErrRange)
	}
}

// wrongStations are numbers of stations that there may not be.
var wrongStations = []int{math.MinInt, -1 << 32, -5, -1, 0, 6, 7, 200, 1 << 32, 1<<32 + 2, math.MaxInt}

// rightPicks are picks that nothing is wrong with.
var rightPicks = [][]int{
	nil,
	{},
	{0},
	{1000},
	{1, 0},
	same(0, 200),
	same(1000, 200),
}

// wrongPicks are picks with what is wrong with them.
var wrongPicks = []struct {
	name  string
	picks []int
	err   api.Errno
}{
	{"one pick too many", same(0, 201), api.ErrFull},
	{"many picks too many", same(1, 5000), api.ErrFull},
	{"one pick too many, the first out of range", append([]int{-1}, same(0, 200)...), api.ErrFull},
	{"one pick too many, the last out of range", append(same(0, 200), 1001), api.ErrFull},
	{"one pick too many, all out of range", same(-1, 201), api.ErrFull},

	{"-1", []int{-1}, api.ErrRange},
	{"1001", []int{1001}, api.ErrRange},
	{"the least number of all", []int{math.MinInt}, api.ErrRange},
	{"the greatest number of all", []int{math.MaxInt}, api.ErrRange},
	{"a pick in its lowest bits", []int{1<<32 + 3}, api.ErrRange},
	{"the first out of range", []int{1001, 0, 1}, api.ErrRange},
	{"the last out of range", []int{0, 1, -1}, api.ErrRange},
	{"the last one of as many as there may be out of range", append(same(0, 199), 1001), api.ErrRange},
	{"one that would not be taken out of range", []int{0, 1, 0, 1, 0, 1, 0, 1, 0, 1, 0, 1, -1}, api.ErrRange},
	{"all out of range", same(-1, 200), api.ErrRange},
}

// R29.2: the number of stations comes before the picks, and the number of picks before each of them.
func TestErrors(t *testing.T) {
	for _, n := range wrongStations {
		for _, picks := range rightPicks {
			checkNoRun(t, "no such number of stations", n, picks, api.ErrRange)
		}
		for _, c := range wrongPicks {
			checkNoRun(t, c.name, n, c.picks, api.ErrRange)
		}
	}
	for n := 1; n <= 5; n++ {
		for _, c := range wrongPicks {
			checkNoRun(t, c.name, n, c.picks, c.err)
		}
	}
}

// R29.2: every number of stations, of picks, and every pick about the bounds.
func TestBounds(t *testing.T) {
	for n := -10; n <= 20; n++ {
		if n < 1 || n > 5 {
			checkNoRun(t, "no such number of stations", n, []int{1, 0}, api.ErrRange)
		} else {
			checkModel(t, n, []int{1, 0})
		}
	}
	for n := 1; n <= 5; n++ {
		for _, picks := range rightPicks {
			checkModel(t, n, picks)
		}
		for many := 190; many <= 210; many++ {
			if many > 200 {
				checkNoRun(t, "too many picks", n, same(1, many), api.ErrFull)
			} else {
				checkModel(t, n, same(1, many))
			}
		}
		for pick := -1100; pick <= 2100; pick++ {
			picks := []int{pick, 0, 1, 2, 3}
			if pick < 0 || pick > 1000 {
				checkNoRun(t, "no such pick", n, picks, api.ErrRange)
			} else {
				checkModel(t, n, picks)
			}
		}
	}
}

// R29.2
func TestRun(t *testing.T) {
	// the example of the document
	checkRun(t, 2, []int{1, 0}, []int{1, 0}, []int{1, 2})

	// who is alone takes no pick
	checkRun(t, 1, nil, []int{0}, []int{0})
	checkRun(t, 1, []int{7, 8}, []int{0}, []int{0})

	// the first two meet in slot 0, and pick in increasing order out of two slots
	checkRun(t, 2, []int{0, 1}, []int{0, 1}, []int{1, 2})
	checkRun(t, 2, []int{2, 3}, []int{0, 1}, []int{1, 2})
	checkRun(t, 2, []int{1000, 999}, []int{0, 1}, []int{1, 2})
	checkRun(t, 2, []int{1, 0, 1, 1, 1}, []int{1, 0}, []int{1, 2})

	// they meet again in slot 1 or 2, and pick out of four slots, then out of eight
	checkRun(t, 2, []int{0, 0, 3, 1}, []int{1, 0}, []int{3, 5})
	checkRun(t, 2, []int{1, 1, 3, 1}, []int{1, 0}, []int{4, 6})
	checkRun(t, 2, []int{0, 0, 4, 7}, []int{0, 1}, []int{2, 5})
	checkRun(t, 2, []int{0, 0, 3, 3, 7, 9}, []int{1, 0}, []int{7, 13})

	// one sends between two others who meet
	checkRun(t, 3, []int{0, 1, 1, 5, 6}, []int{0, 1, 2}, []int{1, 4, 5})
	checkRun(t, 3, []int{1, 0, 1, 6, 5}, []int{1, 2, 0}, []int{1, 4, 5})

	// one waits while two others meet, and has met fewer
	checkRun(t, 3, []int{0, 0, 1, 3, 2}, []int{2, 1, 0}, []int{2, 4, 5})
	checkRun(t, 3, []int{0, 1, 0, 3, 2}, []int{1, 2, 0}, []int{2, 4, 5})
	checkRun(t, 3, []int{0, 0, 1, 0, 0, 7, 9, 7}, []int{1, 2, 0}, []int{4, 6, 10})

	// four, then three, then two meet
	checkRun(t, 4, []int{1, 0, 1, 1, 2, 6, 0, 7, 4}, []int{1, 3, 2, 0}, []int{1, 3, 10, 13})

	// five meet, and later those who have met different numbers of times: in slots 0, 1, 2, 3, 4, 5, 9, 11 and 13
	picks := []int{0, 1, 0, 1, 1, 3, 2, 0, 0, 1, 5, 1, 6, 0, 3, 20, 16, 1, 7, 33, 33, 40, 40}
	checkRun(t, 5, picks, []int{4, 3, 1, 2, 0}, []int{6, 10, 17, 22, 54})
}

// R29.2: the simulation ends before stations meet without enough picks for all of them.
func TestFewPicks(t *testing.T) {
	checkRun(t, 2, nil, nil, nil)
	checkRun(t, 2, []int{1}, nil, nil)
	checkRun(t, 5, []int{0, 1, 1, 1}, nil, nil)

	// later
	checkRun(t, 2, []int{0, 0}, nil, nil)
	checkRun(t, 2, []int{1, 1, 0}, nil, nil)
	checkRun(t, 3, []int{0, 1, 1}, []int{0}, []int{1})
	checkRun(t, 3, []int{0, 1, 1, 2}, []int{0}, []int{1})

	// three meet with picks for two
	checkRun(t, 3, []int{0, 0, 1, 0, 0, 1, 2}, nil, nil)

	// who waits for a slot behind this does not send
	checkRun(t, 3, []int{0, 0, 1}, nil, nil)
	checkRun(t, 3, []int{0, 0, 1, 3}, nil, nil)
	checkRun(t, 4, []int{0, 0, 0, 1, 0, 0, 2}, nil, nil)
}

// R29.2: ten meetings and more leave 1024 slots to pick from, and nobody sends after slot 1000.
func TestLate(t *testing.T) {
	// after nine meetings, in slots 0 to 8, there are 512 slots
	checkRun(t, 2, append(same(0, 16), 511, 512), []int{1, 0}, []int{9, 520})

	// after ten there are 1024
	checkRun(t, 2, append(same(0, 18), 1, 512), []int{0, 1}, []int{11, 522})
	checkRun(t, 2, append(same(0, 18), 989, 990), []int{0, 1}, []int{999, 1000})
	checkRun(t, 2, append(same(0, 18), 990, 991), []int{0}, []int{1000})
	checkRun(t, 2, append(same(0, 18), 991, 990), []int{1}, []int{1000})
	checkRun(t, 2, append(same(0, 18), 991, 992), nil, nil)
	checkRun(t, 2, append(same(0, 18), 1000, 0), []int{1}, []int{10})
	checkRun(t, 2, append(same(0, 18), 990, 990, 0, 1), nil, nil)

	// more do not change that
	checkRun(t, 2, append(same(0, 20), 988, 989), []int{0, 1}, []int{999, 1000})
	checkRun(t, 2, append(same(0, 126), 1000, 3), []int{1}, []int{67})
	checkRun(t, 2, append(same(0, 128), 7, 930), []int{0, 1}, []int{72, 995})
	checkRun(t, 2, append(same(0, 198), 0, 5), []int{0, 1}, []int{100, 105})
	checkRun(t, 2, same(0, 200), nil, nil)
	checkRun(t, 5, same(0, 200), nil, nil)
	checkRun(t, 5, append(same(0, 195), 4, 3, 2, 1, 0), []int{4, 3, 2, 1, 0}, []int{40, 41, 42, 43, 44})
}

// wins finds what Run returns from the slots that the stations send in next, without going through those in which nobody does.
func wins(n int, picks []int) (who, slots []int) {
	type plan struct{ slot, size int }
	plans := map[int]plan{}
	for station := range n {
		plans[station] = plan{0, 1}
	}
	for len(plans) > 0 {
		slot := math.MaxInt
		for _, p := range plans {
			slot = min(slot, p.slot)
		}
		var senders []int
		for station := range n {
			if p, waits := plans[station]; waits && p.slot == slot {
				senders = append(senders, station)
			}
		}
		if slot > 1000 || len(senders) > 1 && len(senders) > len(picks) {
			return who, slots
		}
		if len(senders) == 1 {
			who, slots = append(who, senders[0]), append(slots, slot)
			delete(plans, senders[0])
			continue
		}
		for _, station := range senders {
			size := min(1024, 2*plans[station].size)
			plans[station] = plan{slot + 1 + picks[0]%size, size}
			picks = picks[1:]
		}
	}
	return who, slots
}

// checkModel compares Run with its model.
func checkModel(t *testing.T, n int, picks []int) {
	t.Helper()
	who, slots := wins(n, picks)
	checkRun(t, n, picks, who, slots)
}

// R29.2: all lists of few small picks.
func TestFew(t *testing.T) {
	for n := 1; n <= 5; n++ {
		for many := range 9 {
			most := []int{0, 9, 9, 9, 5, 4, 3, 2, 2}[many]
			picks := make([]int, many)
			for {
				checkModel(t, n, picks)
				if !count(picks, most) {
					break
				}
			}
		}
	}
}

// count raises the number that the digits of a list make up, and tells whether there is such a number.
func count(digits []int, most int) bool {
	for i := range digits {
		if digits[i] < most {
			digits[i]++
			return true
		}
		digits[i] = 0
	}
	return false
}

// R29.2: many picks, most of them small, so that stations meet often.
func TestMany(t *testing.T) {
	for seed := range uint32(20_000) {
		next := func(limit int) int {
			seed = seed*1_664_525 + 1_013_904_223
			return int(seed>>8) % limit
		}
		n := 1 + next(5)
		picks := make([]int, next(201))
		most := 1 + next(6)
		for i := range picks {
			picks[i] = next(most)
			if next(12) == 0 {
				picks[i] = next(1001)
			}
		}
		checkModel(t, n, picks)
	}
}

// Z2: the argument and its spare capacity stay as they are, and results have memory of their own.
func TestMemory(t *testing.T) {
	memory := []int{77, 0, 0, 3, 1, 78, 79}
	picks := memory[1:5]
	who, slots, err := retry.Run(2, picks)
	if err != nil {
		t.Fatal(err)
	}
	who2, slots2, _ := retry.Run(2, picks)
	checkNoRun(t, "no stations", 0, picks, api.ErrRange)
	who = append(who[:0], 100, 101, 102, 103, 104, 105, 106)
	slots = append(slots[:0], 200, 201, 202, 203, 204, 205, 206)
	if !slices.Equal(memory, []int{77, 0, 0, 3, 1, 78, 79}) {
		t.Errorf("the memory of the argument is %v", memory)
	}
	clear(memory)
	if !slices.Equal(who2, []int{1, 0}) || !slices.Equal(slots2, []int{3, 5}) {
		t.Errorf("the results have become %v and %v", who2, slots2)
	}
	if who[0] != 100 || slots[0] != 200 {
		t.Errorf("the results have become %v and %v", who, slots)
	}
}

// Z2: a call does not depend on those before it.
func TestAgain(t *testing.T) {
	for range 3 {
		checkRun(t, 2, []int{1, 0}, []int{1, 0}, []int{1, 2})
		checkNoRun(t, "too many picks", 2, same(0, 201), api.ErrFull)
		checkRun(t, 3, []int{0, 1, 1}, []int{0}, []int{1})
		checkNoRun(t, "no such pick", 2, []int{1, 1001}, api.ErrRange)
		checkWindow(t, 3, 8, api.OK)
		checkWindow(t, -1, 0, api.ErrRange)
	}
}
