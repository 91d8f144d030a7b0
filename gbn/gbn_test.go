package gbn_test

import (
	"iter"
	"math"
	"slices"
	"testing"

	"ferryhythe/abp"
	"ferryhythe/api"
	"ferryhythe/gbn"
	"ferryhythe/plain"
)

var (
	through  = api.Fate{}                        // packet and acknowledgment arrive
	lost     = api.Fate{There: true}             // the packet is lost
	unheard  = api.Fate{Back: true}              // the acknowledgment is lost
	bothLost = api.Fate{There: true, Back: true} // the packet is lost, so that there is no acknowledgment to lose
)

// count are the n elements from 1 on.
func count(n int) []int {
	var l []int
	for i := range n {
		l = append(l, i+1)
	}
	return l
}

// same are n fates, all equal to f.
func same(f api.Fate, n int) []api.Fate {
	return slices.Repeat([]api.Fate{f}, n)
}

// scripts yields every list of at most limit fates out of kinds.
func scripts(limit int, kinds ...api.Fate) iter.Seq[[]api.Fate] {
	return func(yield func([]api.Fate) bool) {
		if !yield(nil) || limit == 0 {
			return
		}
		for l := range scripts(limit-1, kinds...) {
			for _, f := range kinds {
				if !yield(append(slices.Clone(l), f)) {
					return
				}
			}
		}
	}
}

// right are arguments that Check finds nothing wrong with.
var right = []struct {
	name       string
	data       []int
	win, round int
	fates      []api.Fate
}{
	{"nothing", nil, 1, 2, nil},
	{"empty lists", []int{}, 1, 2, []api.Fate{}},
	{"the greatest window and round", []int{5}, 8, 16, []api.Fate{through}},
	{"the least window, the greatest round", []int{5}, 1, 16, []api.Fate{through}},
	{"the greatest window, the least round", []int{5}, 8, 2, []api.Fate{through}},
	{"the least and the greatest element", []int{0, 1000}, 2, 3, []api.Fate{lost, unheard, bothLost, through}},
	{"a window greater than the number of elements", []int{5}, 8, 9, nil},
	{"most elements", slices.Repeat([]int{1000}, 20), 4, 5, nil},
	{"most fates", nil, 4, 5, same(unheard, 200)},
	{"most elements and fates", count(20), 8, 16, same(unheard, 200)},
}

// wrong are arguments with what is wrong with them.
var wrong = []struct {
	name       string
	data       []int
	win, round int
	fates      []api.Fate
	err        api.Errno
}{
	{"one element too many", count(21), 2, 4, nil, api.ErrFull},
	{"one fate too many", nil, 2, 4, same(through, 201), api.ErrFull},
	{"too many of both", count(21), 2, 4, same(through, 201), api.ErrFull},
	{"a negative element", []int{5, -1}, 2, 4, same(through, 3), api.ErrRange},
	{"too great an element", []int{1001, 5}, 2, 4, nil, api.ErrRange},

	{"too many elements, a negative one", append(count(20), -1), 2, 4, nil, api.ErrFull},
	{"too many elements, no window", count(21), 0, 4, nil, api.ErrFull},
	{"too many elements, too great a window", count(21), 9, 4, nil, api.ErrFull},
	{"too many elements, too small a round", count(21), 2, 1, nil, api.ErrFull},
	{"too many fates, no window", []int{5}, 0, 4, same(through, 201), api.ErrFull},
	{"too many fates, too great a round", []int{5}, 2, 17, same(through, 201), api.ErrFull},
	{"too many fates, everything else out of range", []int{-1}, -1, -1, same(through, 201), api.ErrFull},

	{"no window", nil, 0, 2, nil, api.ErrRange},
	{"no window with elements and fates", []int{5, 6}, 0, 4, same(through, 3), api.ErrRange},
	{"a negative window", []int{5}, -1, 4, same(through, 3), api.ErrRange},
	{"one too great a window", []int{5}, 9, 16, same(through, 3), api.ErrRange},
	{"a window in its lowest bits", []int{5}, 1<<32 + 2, 4, same(through, 3), api.ErrRange},
	{"the least window of all", []int{5}, math.MinInt, 4, same(through, 3), api.ErrRange},
	{"the greatest window of all", []int{5}, math.MaxInt, 4, same(through, 3), api.ErrRange},

	{"one sequence number", nil, 1, 1, nil, api.ErrRange},
	{"no sequence numbers", []int{5}, 1, 0, same(through, 3), api.ErrRange},
	{"a negative round", []int{5}, 2, -4, same(through, 3), api.ErrRange},
	{"one too great a round", []int{5}, 8, 17, same(through, 3), api.ErrRange},
	{"a round in its lowest bits", []int{5}, 2, 1<<32 + 4, same(through, 3), api.ErrRange},
	{"the least round of all", []int{5}, 2, math.MinInt, same(through, 3), api.ErrRange},
	{"the greatest round of all", []int{5}, 2, math.MaxInt, same(through, 3), api.ErrRange},
	{"neither window nor sequence numbers", []int{5}, 0, 0, same(through, 3), api.ErrRange},
}

// R10.1
func TestCheck(t *testing.T) {
	for _, c := range right {
		if err := gbn.Check(c.data, c.win, c.round, c.fates); err != nil {
			t.Errorf("%s: Check is %v; want nil", c.name, err)
		}
	}
	for _, c := range wrong {
		if err := gbn.Check(c.data, c.win, c.round, c.fates); plain.Told(err) != c.err {
			t.Errorf("%s: Check is %v; want %v", c.name, err, c.err)
		}
	}
}

// R10.1: all windows and rounds about their bounds.
func TestCheckBounds(t *testing.T) {
	for win := -3; win <= 20; win++ {
		for round := -3; round <= 20; round++ {
			want := api.ErrRange
			if 1 <= win && win <= 8 && 2 <= round && round <= 16 {
				want = api.OK
			}
			if err := gbn.Check([]int{5}, win, round, []api.Fate{through}); plain.Told(err) != want {
				t.Errorf("Check of window %d and round %d is %v; want %v", win, round, err, want)
			}
		}
	}
}

// R10.1: Check has the errors of abp.Check.
func TestCheckOfDataAndFates(t *testing.T) {
	for n := range api.MaxData + 2 {
		for m := range api.MaxScript + 2 {
			for _, last := range []int{-1, 0, 1000, 1001} {
				data, fates := append(count(n), last), same(through, m)
				want := plain.Told(abp.Check(data, fates))
				if err := gbn.Check(data, 2, 4, fates); plain.Told(err) != want {
					t.Errorf("Check(%v) with %d fates is %v; want %v", data, m, err, want)
				}
			}
		}
	}
}

// R10.2
func TestRun(t *testing.T) {
	cases := []struct {
		name       string
		data       []int
		win, round int
		fates      []api.Fate
		got        []int
		known      int
	}{
		{"an acknowledgment of both is lost with too few numbers", []int{5, 6}, 2, 2, []api.Fate{unheard, unheard, through}, []int{5, 6, 5}, 1},
		{"an acknowledgment of both is lost", []int{5, 6}, 2, 3, []api.Fate{unheard, unheard, through}, []int{5, 6}, 2},
		{"nothing to send, no fate", nil, 2, 4, nil, nil, 0},
		{"nothing to send", nil, 2, 4, []api.Fate{through, unheard}, nil, 0},
		{"no fate", []int{5, 6}, 2, 4, nil, nil, 0},
		{"none is lost", []int{5, 6, 7}, 2, 4, same(through, 3), []int{5, 6, 7}, 3},
		{"fates end in between", []int{5, 6, 7}, 2, 4, same(through, 2), []int{5, 6}, 2},
		{"fates behind the last acknowledgment", []int{5}, 2, 4, []api.Fate{through, through, unheard, lost}, []int{5}, 1},
		{"the packet is lost", []int{5}, 2, 4, []api.Fate{lost}, nil, 0},
		{"the packet and no acknowledgment are lost", []int{5}, 2, 4, []api.Fate{bothLost}, nil, 0},
		{"the packet is lost, then not", []int{5}, 2, 4, []api.Fate{lost, through}, []int{5}, 1},
		{"the acknowledgment is lost", []int{5}, 2, 4, []api.Fate{unheard}, []int{5}, 0},
		{"the acknowledgment is lost, the next one tells both", []int{5, 6}, 2, 4, []api.Fate{unheard, through}, []int{5, 6}, 2},
		{"the second packet is not expected", []int{5, 6}, 2, 4, []api.Fate{lost, through}, nil, 0},
		{"after the window it goes back", []int{5, 6, 7}, 2, 4, []api.Fate{lost, through, through}, []int{5}, 1},
		{"after the window it goes back and continues", []int{5, 6, 7}, 2, 4, []api.Fate{lost, through, through, through, through}, []int{5, 6, 7}, 3},
		{"after the last element it goes back", []int{5, 6}, 8, 9, []api.Fate{lost, through, through}, []int{5}, 1},
		{"it goes back to the first unacknowledged one", []int{5, 6, 7, 8}, 2, 4, []api.Fate{through, lost, lost, through}, []int{5, 6}, 2},
		{"the window moves on before it goes back", []int{5, 6, 7, 8}, 3, 4, []api.Fate{through, lost, through, through, through}, []int{5, 6}, 2},
		{"the next one was not acknowledged", []int{5, 6, 7, 8}, 2, 3, []api.Fate{unheard, unheard, through, through}, []int{5, 6, 7}, 3},
		{"the next one was not acknowledged, of a longer window", count(6), 4, 5, append(same(unheard, 4), through, through), count(5), 5},
		{"a packet is lost in the middle", count(4), 4, 5, []api.Fate{through, lost, through, through}, []int{1}, 1},
		{"a packet is lost in the middle, then sent again", count(4), 4, 5, []api.Fate{through, lost, through, through, through}, count(2), 2},
		{"a packet is lost in the middle, then all behind it are sent again", count(4), 4, 5, []api.Fate{through, lost, through, through, through, through, through}, count(4), 4},
		{"the window without an acknowledgment is delivered", count(20), 8, 9, same(unheard, 200), count(8), 0},
		{"the window and no more is sent", count(20), 3, 16, same(unheard, 200), count(3), 0},
		{"too few numbers let the window come over and over", []int{5, 6}, 2, 2, same(unheard, 7), []int{5, 6, 5, 6, 5, 6, 5}, 0},
		{"too few numbers let the fourth one pass for the second", count(5), 5, 2, []api.Fate{unheard, lost, lost, unheard, unheard}, []int{1, 4, 5}, 0},
		{"too few numbers hide an acknowledgment of all", count(4), 2, 2, []api.Fate{unheard, through}, count(2), 0},
		{"equal elements", []int{5, 5, 5}, 2, 3, []api.Fate{unheard, through, through}, []int{5, 5, 5}, 3},
		{"the least and the greatest element", []int{0, 1000, 0}, 1, 2, same(through, 3), []int{0, 1000, 0}, 3},
		{"most elements", count(20), 8, 16, same(through, 20), count(20), 20},
		{"most elements, most fates", count(20), 1, 2, same(through, 200), count(20), 20},
		{"all of most fates are lost", count(20), 8, 9, same(bothLost, 200), nil, 0},
		{"one in a window is not lost, each time the same", count(20), 4, 5, slices.Repeat([]api.Fate{lost, through, lost, lost}, 50), nil, 0},
		{"the first of each window is not lost", count(3), 2, 3, slices.Repeat([]api.Fate{through, lost, lost}, 3), count(3), 3},
	}
	for _, c := range cases {
		got, known, err := gbn.Run(c.data, c.win, c.round, c.fates)
		if !slices.Equal(got, c.got) || known != c.known || err != nil {
			t.Errorf("%s: Run(%v, %d, %d, %v) is %v, %d, %v; want %v, %d", c.name, c.data, c.win, c.round, c.fates, got, known, err, c.got, c.known)
		}
	}
}

// sender is the model of one: the packets that it sends before it goes back, each named by its element.
type sender struct {
	all, win, told int
	waiting        []int
}

// window are the elements from the first unacknowledged one on that may be sent.
func (s *sender) window() []int {
	var l []int
	for i := s.told; i < s.all && len(l) < s.win; i++ {
		l = append(l, i)
	}
	return l
}

// send takes the first waiting packet, or the first one of the window if none waits.
func (s *sender) send() int {
	if len(s.waiting) == 0 {
		s.waiting = s.window()
	}
	first := s.waiting[0]
	s.waiting = s.waiting[1:]
	return first
}

// hear acknowledges elements up to the first one with the number, of those that may be sent and the one behind them.
func (s *sender) hear(number, round int) {
	before := s.window()
	for steps := 0; steps <= len(before); steps++ {
		if numberOf(s.told+steps, round) == number {
			s.told += steps
			break
		}
	}
	for _, i := range s.window() {
		if !slices.Contains(before, i) {
			s.waiting = append(s.waiting, i)
		}
	}
	s.waiting = slices.DeleteFunc(s.waiting, func(i int) bool { return i < s.told })
}

// numberOf counts up to an element, and begins anew after round numbers.
func numberOf(element, round int) int {
	number := 0
	for range element {
		number++
		if number == round {
			number = 0
		}
	}
	return number
}

// model is a transmission with a list of waiting packets and a receiver that knows nothing but the number it expects.
func model(data []int, win, round int, fates []api.Fate) (got []int, known int) {
	s := sender{all: len(data), win: win}
	expected := 0
	for _, f := range fates {
		if s.told == s.all {
			break
		}
		sent := s.send()
		if f.There {
			continue
		}
		if numberOf(sent, round) == expected {
			got = append(got, data[sent])
			expected = numberOf(expected+1, round)
		}
		if !f.Back {
			s.hear(expected, round)
		}
	}
	return got, s.told
}

// checkRun compares a run with the model.
func checkRun(t *testing.T, data []int, win, round int, fates []api.Fate) {
	t.Helper()
	want, wantKnown := model(data, win, round, fates)
	got, known, err := gbn.Run(data, win, round, fates)
	if !slices.Equal(got, want) || known != wantKnown || err != nil {
		t.Fatalf("Run(%v, %d, %d, %v) is %v, %d, %v; want %v, %d", data, win, round, fates, got, known, err, want, wantKnown)
	}
}

// R10.2: of every short script with every small window and round, also with too few numbers.
func TestRunOfAllScripts(t *testing.T) {
	for fates := range scripts(8, through, lost, unheard) {
		for n := range 5 {
			for win := 1; win <= 4; win++ {
				for round := 2; round <= 5; round++ {
					checkRun(t, count(n), win, round, fates)
				}
			}
		}
	}
}

// R10.2: short scripts over and over, up to the limits, with every window and round.
func TestRunOfLongScripts(t *testing.T) {
	for part := range scripts(4, through, lost, unheard, bothLost) {
		fates := slices.Repeat(part, 200/max(1, len(part)))
		for win := 1; win <= 8; win++ {
			for round := 2; round <= 16; round++ {
				checkRun(t, count(20), win, round, fates)
			}
		}
		for win := 1; win <= 8; win++ {
			checkRun(t, count(win), win, win+1, append(same(unheard, win), fates[:min(len(fates), 150)]...))
			checkRun(t, count(19), win, max(2, win), append(same(unheard, 2*win), fates[:min(len(fates), 150)]...))
		}
	}
}

// R10.2: with a window of one element, it is the alternating bit protocol.
func TestRunWithWindowOfOne(t *testing.T) {
	for fates := range scripts(6, through, lost, unheard, bothLost) {
		for n := range 4 {
			for _, round := range []int{2, 3, 16} {
				want, wantKnown, _ := abp.Run(count(n), fates)
				got, known, err := gbn.Run(count(n), 1, round, fates)
				if !slices.Equal(got, want) || known != wantKnown || err != nil {
					t.Fatalf("Run(%v, 1, %d, %v) is %v, %d, %v; want %v, %d", count(n), round, fates, got, known, err, want, wantKnown)
				}
			}
		}
	}
}

// R10.2: with more numbers than the window has elements, the elements are delivered in order and once,
// and an acknowledgment that arrives tells all that were delivered.
func TestRunWithEnoughNumbers(t *testing.T) {
	data := []int{9, 8, 7, 6, 5}
	for fates := range scripts(8, through, lost, unheard) {
		for win := 1; win <= 4; win++ {
			for _, round := range []int{win + 1, win + 2, 2 * win, 16} {
				got, known, err := gbn.Run(data, win, round, fates)
				if err != nil || len(got) > len(data) || !slices.Equal(got, data[:len(got)]) {
					t.Fatalf("Run(%v, %d, %d, %v) is %v, %d, %v", data, win, round, fates, got, known, err)
				}
				last := len(fates)
				for last > 0 && fates[last-1] != through {
					last--
				}
				told, _, _ := gbn.Run(data, win, round, fates[:last])
				if known != len(told) {
					t.Fatalf("Run(%v, %d, %d, %v) acknowledges %d; want %d", data, win, round, fates, known, len(told))
				}
			}
		}
	}
}

// R10.2: Run takes what Check takes.
func TestErrorsOfRun(t *testing.T) {
	for _, c := range right {
		if _, _, err := gbn.Run(c.data, c.win, c.round, c.fates); err != nil {
			t.Errorf("%s: Run is %v; want no error", c.name, err)
		}
	}
	for _, c := range wrong {
		got, known, err := gbn.Run(c.data, c.win, c.round, c.fates)
		if len(got) > 0 || known != 0 || plain.Told(err) != c.err {
			t.Errorf("%s: Run is %v, %d, %v; want none, 0, %v", c.name, got, known, err, c.err)
		}
	}
}

// R10.1 and R10.2: arguments stay as they are, with their spare capacity, and results share no memory with them or with each other.
func TestMemory(t *testing.T) {
	data := []int{5, 6, 7, 8, 9}
	fates := []api.Fate{unheard, unheard, through, through, bothLost, unheard, lost}
	wantData, wantFates := slices.Clone(data), slices.Clone(fates)
	if err := gbn.Check(data[:3], 2, 3, fates[:5]); err != nil {
		t.Fatal(err)
	}
	first, _, err := gbn.Run(data[:3], 2, 3, fates[:5])
	if err != nil {
		t.Fatal(err)
	}
	second, known, err := gbn.Run(data[:3], 2, 3, fates[:5])
	if err != nil {
		t.Fatal(err)
	}
	first = append(first[:0], 100, 101, 102, 103)
	if !slices.Equal(data, wantData) || !slices.Equal(fates, wantFates) {
		t.Errorf("the arguments are %v, %v; want %v, %v", data, fates, wantData, wantFates)
	}
	data[0], fates[0] = 200, lost
	if want := []int{5, 6, 7}; !slices.Equal(second, want) || known != 3 {
		t.Errorf("the second result is %v, %d; want %v, 3", second, known, want)
	}
	if want := []int{100, 101, 102, 103}; !slices.Equal(first, want) {
		t.Errorf("the changed first result is %v; want %v", first, want)
	}
}

// R10.2: a run does not depend on the runs before it.
func TestRunsAreApart(t *testing.T) {
	for before := range scripts(3, through, lost, unheard, bothLost) {
		if _, _, err := gbn.Run(count(3), 2, 2, before); err != nil {
			t.Fatal(err)
		}
		got, known, err := gbn.Run([]int{5, 6}, 2, 2, []api.Fate{unheard, unheard, through})
		if want := []int{5, 6, 5}; !slices.Equal(got, want) || known != 1 || err != nil {
			t.Fatalf("after Run with %v, Run is %v, %d, %v; want %v, 1", before, got, known, err, want)
		}
	}
}
