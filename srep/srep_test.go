package srep_test

import (
	"iter"
	"math"
	"slices"
	"testing"

	"ferryhythe/abp"
	"ferryhythe/api"
	"ferryhythe/gbn"
	"ferryhythe/plain"
	"ferryhythe/srep"
)

var (
	through  = api.Fate{}                        // packet and acknowledgment arrive
	lost     = api.Fate{There: true}             // the packet is lost
	unheard  = api.Fate{Back: true}              // the acknowledgment is lost
	bothLost = api.Fate{There: true, Back: true} // the packet is lost, so that there is no acknowledgment to lose
)

// count are the n elements from 1 on.
func count(n int) []int {
	var l []int
	for i := range n {
		l = append(l, i+1)
	}
	return l
}

// same are n fates, all equal to f.
func same(f api.Fate, n int) []api.Fate {
	return slices.Repeat([]api.Fate{f}, n)
}

// scripts yields every list of at most limit fates out of kinds.
func scripts(limit int, kinds ...api.Fate) iter.Seq[[]api.Fate] {
	return func(yield func([]api.Fate) bool) {
		if !yield(nil) || limit == 0 {
			return
		}
		for l := range scripts(limit-1, kinds...) {
			for _, f := range kinds {
				if !yield(append(slices.Clone(l), f)) {
					return
				}
			}
		}
	}
}

// R11.1: ordinary runs, and the edges of a window that has enough sequence numbers.
func TestRun(t *testing.T) {
	cases := []struct {
		name       string
		data       []int
		win, round int
		fates      []api.Fate
		got        []int
		known      int
	}{
		{"nothing to send, no fate", nil, 2, 4, nil, nil, 0},
		{"nothing to send", nil, 2, 4, []api.Fate{through, unheard}, nil, 0},
		{"no fate", []int{5, 6}, 2, 4, nil, nil, 0},
		{"none is lost", []int{5, 6, 7}, 2, 4, same(through, 3), []int{5, 6, 7}, 3},
		{"fates end in between", []int{5, 6, 7}, 2, 4, same(through, 2), []int{5, 6}, 2},
		{"fates behind the last acknowledgment", []int{5}, 2, 4, []api.Fate{through, through, unheard, lost}, []int{5}, 1},
		{"the packet is lost", []int{5}, 2, 4, []api.Fate{lost}, nil, 0},
		{"the packet and no acknowledgment are lost", []int{5}, 2, 4, []api.Fate{bothLost}, nil, 0},
		{"the packet is lost, then not", []int{5}, 2, 4, []api.Fate{bothLost, lost, through}, []int{5}, 1},
		{"the acknowledgment is lost", []int{5}, 2, 4, []api.Fate{unheard}, []int{5}, 0},
		{"the acknowledgment is lost, then not", []int{5}, 2, 4, []api.Fate{unheard, unheard, through}, []int{5}, 1},
		{"the acknowledgment of the second tells nothing of the first", []int{5, 6}, 2, 4, []api.Fate{unheard, through}, []int{5, 6}, 0},
		{"the acknowledgments of both are told once the first arrives", []int{5, 6}, 2, 4, []api.Fate{unheard, through, through}, []int{5, 6}, 2},
		{"the second packet waits for the first", []int{5, 6}, 2, 4, []api.Fate{lost, through}, nil, 0},
		{"only the lost one is sent again", []int{5, 6, 7}, 3, 6, []api.Fate{lost, through, through, through}, []int{5, 6, 7}, 3},
		{"the lost one is sent after those that wait", []int{5, 6, 7}, 3, 6, []api.Fate{lost, unheard, through}, nil, 0},
		{"two lost ones are sent again in order", []int{5, 6, 7}, 3, 6, []api.Fate{lost, lost, through, through}, []int{5}, 1},
		{"lost twice", []int{5, 6}, 2, 4, []api.Fate{lost, through, lost, through}, []int{5, 6}, 2},
		{"the next one behind the window waits for the first", []int{5, 6, 7}, 2, 4, []api.Fate{lost, through, lost, lost, through}, []int{5, 6}, 2},
		{"the next one is sent after those that wait", []int{5, 6, 7}, 2, 4, []api.Fate{through, lost, through, through}, []int{5, 6, 7}, 3},
		{"the first one stops the others", count(6), 3, 6, []api.Fate{lost, through, through, lost, lost, lost}, nil, 0},
		{"as many new ones as were acknowledged at once", count(6), 3, 6, []api.Fate{lost, through, through, through, through, through}, count(5), 5},
		{"a packet is lost in the middle", count(4), 4, 8, []api.Fate{through, lost, through, through}, count(1), 1},
		{"a packet is lost in the middle, then sent again", count(4), 4, 8, []api.Fate{through, lost, through, through, through}, count(4), 4},
		{"the window without an acknowledgment is delivered", count(20), 8, 16, same(unheard, 200), count(8), 0},
		{"the window and no more is sent", count(20), 3, 16, same(unheard, 200), count(3), 0},
		{"the window greater than the number of elements", []int{5, 6}, 8, 16, []api.Fate{lost, through, through}, []int{5, 6}, 2},
		{"equal elements", []int{5, 5, 5}, 2, 4, []api.Fate{unheard, through, through, through}, []int{5, 5, 5}, 3},
		{"the least and the greatest element", []int{0, 1000, 0}, 1, 2, same(through, 3), []int{0, 1000, 0}, 3},
		{"most elements", count(20), 8, 16, same(through, 20), count(20), 20},
		{"most elements, most fates", count(20), 1, 2, same(through, 200), count(20), 20},
		{"all of most fates are lost", count(20), 8, 16, same(bothLost, 200), nil, 0},
		{"one in four is not lost", count(20), 4, 8, slices.Repeat([]api.Fate{lost, lost, lost, through}, 20), count(20), 20},
	}
	for _, c := range cases {
		got, known, err := srep.Run(c.data, c.win, c.round, c.fates)
		if !slices.Equal(got, c.got) || known != c.known || err != nil {
			t.Errorf("%s: Run(%v, %d, %d, %v) is %v, %d, %v; want %v, %d", c.name, c.data, c.win, c.round, c.fates, got, known, err, c.got, c.known)
		}
	}
}

// R11.1: too few sequence numbers for the window.
func TestRunWithTooFewNumbers(t *testing.T) {
	cases := []struct {
		name       string
		data       []int
		win, round int
		fates      []api.Fate
		got        []int
		known      int
	}{
		{"an old element is taken for one behind the last", []int{5, 6}, 2, 2, []api.Fate{unheard, unheard, through}, []int{5, 6, 5}, 1},
		{"as many numbers as needed", []int{5, 6}, 2, 4, []api.Fate{unheard, unheard, through}, []int{5, 6}, 1},
		{"one number less: an old element waits for the one before it", count(4), 2, 3, []api.Fate{unheard, unheard, through, through}, count(2), 2},
		{"one number less: an old element stands in for the last", count(4), 2, 3, []api.Fate{unheard, unheard, through, through, through, through}, []int{1, 2, 3, 1}, 4},
		{"the window comes over and over", count(20), 8, 2, same(unheard, 200), slices.Repeat(count(8), 25), 0},
		{"the first position with the number is taken", count(3), 3, 2, []api.Fate{lost, lost, unheard}, []int{3}, 0},
		{"the first element with the number is marked", count(3), 3, 2, []api.Fate{lost, lost, through}, []int{3}, 1},
		{"the first element with the number is marked again", count(4), 4, 2, []api.Fate{lost, through, lost, through, through}, []int{1, 4}, 2},
		{"a buffered position is buffered again", count(4), 4, 2, []api.Fate{lost, unheard, lost, unheard, unheard}, []int{1, 4}, 0},
		{"the new one waits before the one that was sent", count(4), 3, 2, []api.Fate{lost, lost, through, lost, lost, through}, []int{3, 4}, 2},
		{"an acknowledged element that waits is sent, and not again", count(4), 3, 2, append([]api.Fate{lost, lost}, same(through, 4)...), []int{3, 2, 1, 4}, 4},
		{"it goes on until none waits", count(4), 3, 2, append([]api.Fate{lost, lost}, same(through, 5)...), []int{3, 2, 1, 4, 3}, 4},
		{"it ends when none waits", count(4), 3, 2, append([]api.Fate{lost, lost}, same(through, 9)...), []int{3, 2, 1, 4, 3}, 4},
	}
	for _, c := range cases {
		got, known, err := srep.Run(c.data, c.win, c.round, c.fates)
		if !slices.Equal(got, c.got) || known != c.known || err != nil {
			t.Errorf("%s: Run(%v, %d, %d, %v) is %v, %d, %v; want %v, %d", c.name, c.data, c.win, c.round, c.fates, got, known, err, c.got, c.known)
		}
	}
}

// numberOf counts up to a position, and begins anew after round numbers.
func numberOf(position, round int) int {
	number := 0
	for range position {
		number++
		if number == round {
			number = 0
		}
	}
	return number
}

// place is a position of the model: its number, and whether something came for it.
type place struct {
	number, value int
	came          bool
}

// places are the first n positions, for which nothing came.
func places(n, round int) []place {
	var l []place
	for i := range n {
		l = append(l, place{number: numberOf(i, round)})
	}
	return l
}

// come puts the value at the first place that has the number.
func come(l []place, number, value int) {
	for i := range l {
		if l[i].number == number {
			l[i].value, l[i].came = value, true
			return
		}
	}
}

// model is a transmission between one that has all of its places in a row, and one that is told nothing but numbers.
func model(data []int, win, round int, fates []api.Fate) (got []int, known int) {
	// Each fate buffers at most one element, so no more are delivered than there are fates.
	there, here := places(len(fates)+win+1, round), places(len(data), round)
	var queue []int
	for i := range here[:min(win, len(here))] {
		queue = append(queue, i)
	}
	for _, f := range fates {
		if len(queue) == 0 {
			break
		}
		sent := queue[0]
		queue = slices.Delete(queue, 0, 1)
		if !f.There {
			come(there[len(got):len(got)+win], here[sent].number, data[sent])
			for there[len(got)].came {
				got = append(got, there[len(got)].value)
			}
		}
		if f == through {
			come(here[known:min(known+win, len(here))], here[sent].number, 0)
			for known < len(here) && here[known].came {
				if known+win < len(here) {
					queue = append(queue, known+win)
				}
				known++
			}
		}
		if !here[sent].came {
			queue = append(queue, sent)
		}
	}
	return got, known
}

// checkRun compares a run with the model.
func checkRun(t *testing.T, data []int, win, round int, fates []api.Fate) {
	t.Helper()
	want, wantKnown := model(data, win, round, fates)
	got, known, err := srep.Run(data, win, round, fates)
	if !slices.Equal(got, want) || known != wantKnown || err != nil {
		t.Fatalf("Run(%v, %d, %d, %v) is %v, %d, %v; want %v, %d", data, win, round, fates, got, known, err, want, wantKnown)
	}
}

// R11.1: of every short script with every small window and round, also with too few numbers.
func TestRunOfAllScripts(t *testing.T) {
	for fates := range scripts(7, through, lost, unheard) {
		for n := range 6 {
			for win := 1; win <= 4; win++ {
				for _, round := range []int{2, 3, 4, 7, 8} {
					checkRun(t, count(n), win, round, fates)
				}
			}
		}
	}
}

// R11.1: short scripts over and over, up to the limits, with every window and round.
func TestRunOfLongScripts(t *testing.T) {
	for part := range scripts(4, through, lost, unheard, bothLost) {
		fates := slices.Repeat(part, 200/max(1, len(part)))
		for win := 1; win <= 8; win++ {
			for round := 2; round <= 16; round++ {
				checkRun(t, count(20), win, round, fates)
			}
		}
	}
}

// R11.1: with twice as many numbers as the window has elements, the elements are delivered in order and once,
// each packet that gets through acknowledges one that was not, and more numbers change nothing.
func TestRunWithEnoughNumbers(t *testing.T) {
	data := []int{9, 8, 7, 6, 5}
	for fates := range scripts(8, through, lost, unheard) {
		heard := 0
		for _, f := range fates {
			if f == through {
				heard++
			}
		}
		for win := 1; win <= 4; win++ {
			most, mostKnown, _ := srep.Run(data, win, 16, fates)
			for _, round := range []int{2 * win, 2*win + 1} {
				got, known, err := srep.Run(data, win, round, fates)
				if !slices.Equal(got, most) || known != mostKnown || err != nil {
					t.Fatalf("Run(%v, %d, %d, %v) is %v, %d, %v; want %v, %d as with 16 numbers", data, win, round, fates, got, known, err, most, mostKnown)
				}
				if len(got) > len(data) || !slices.Equal(got, data[:len(got)]) || known > len(got) {
					t.Fatalf("Run(%v, %d, %d, %v) is %v, %d", data, win, round, fates, got, known)
				}
				if known > heard || (known == len(data)) != (heard >= len(data)) || heard-known >= win && known < len(data) {
					t.Fatalf("Run(%v, %d, %d, %v) acknowledges %d; %d packets got through", data, win, round, fates, known, heard)
				}
			}
		}
	}
}

// R11.1: with a window of one element, it is the alternating bit protocol.
func TestRunWithWindowOfOne(t *testing.T) {
	for fates := range scripts(6, through, lost, unheard, bothLost) {
		for n := range 4 {
			for _, round := range []int{2, 3, 16} {
				want, wantKnown, _ := abp.Run(count(n), fates)
				got, known, err := srep.Run(count(n), 1, round, fates)
				if !slices.Equal(got, want) || known != wantKnown || err != nil {
					t.Fatalf("Run(%v, 1, %d, %v) is %v, %d, %v; want %v, %d", count(n), round, fates, got, known, err, want, wantKnown)
				}
			}
		}
	}
}

// R11.1: Run takes the least and the greatest arguments.
func TestRunTakes(t *testing.T) {
	cases := []struct {
		name       string
		data       []int
		win, round int
		fates      []api.Fate
	}{
		{"nothing", nil, 1, 2, nil},
		{"empty lists", []int{}, 1, 2, []api.Fate{}},
		{"the greatest window and round", []int{5}, 8, 16, []api.Fate{through}},
		{"the least window, the greatest round", []int{5}, 1, 16, []api.Fate{through}},
		{"the greatest window, the least round", []int{5}, 8, 2, []api.Fate{through}},
		{"the least and the greatest element", []int{0, 1000}, 2, 4, []api.Fate{lost, unheard, bothLost, through}},
		{"most elements", slices.Repeat([]int{1000}, 20), 4, 8, nil},
		{"most fates", nil, 4, 8, same(unheard, 200)},
		{"most elements and fates", count(20), 8, 16, same(through, 200)},
	}
	for _, c := range cases {
		if _, _, err := srep.Run(c.data, c.win, c.round, c.fates); err != nil {
			t.Errorf("%s: Run is %v; want no error", c.name, err)
		}
	}
}

// R11.1: what is wrong, in the order in which it is checked.
func TestErrors(t *testing.T) {
	cases := []struct {
		name       string
		data       []int
		win, round int
		fates      []api.Fate
		err        api.Errno
	}{
		{"one element too many", count(21), 2, 4, same(through, 3), api.ErrFull},
		{"one fate too many", []int{5}, 2, 4, same(through, 201), api.ErrFull},
		{"too many of both", count(21), 2, 4, same(through, 201), api.ErrFull},
		{"too many elements, a negative one", append(count(20), -1), 2, 4, nil, api.ErrFull},
		{"too many elements, no window", count(21), 0, 4, nil, api.ErrFull},
		{"too many elements, too small a round", count(21), 2, 1, nil, api.ErrFull},
		{"too many fates, too great a window", []int{5}, 9, 4, same(through, 201), api.ErrFull},
		{"too many fates, everything else out of range", []int{-1}, -1, -1, same(through, 201), api.ErrFull},
		{"a negative element", []int{5, -1}, 2, 4, same(through, 3), api.ErrRange},
		{"too great an element", []int{1001, 5}, 2, 4, same(through, 3), api.ErrRange},
		{"a negative element that would not be sent", []int{5, 6, 7, -1}, 2, 4, same(through, 1), api.ErrRange},
		{"no window, nothing to send", nil, 0, 2, nil, api.ErrRange},
		{"no window", []int{5, 6}, 0, 4, same(through, 3), api.ErrRange},
		{"a negative window", []int{5}, -1, 4, same(through, 3), api.ErrRange},
		{"one too great a window", []int{5}, 9, 16, same(through, 3), api.ErrRange},
		{"a window in its lowest bits", []int{5}, 1<<32 + 2, 4, same(through, 3), api.ErrRange},
		{"the least window of all", []int{5}, math.MinInt, 4, same(through, 3), api.ErrRange},
		{"the greatest window of all", []int{5}, math.MaxInt, 4, same(through, 3), api.ErrRange},
		{"one sequence number, nothing to send", nil, 1, 1, nil, api.ErrRange},
		{"no sequence numbers", []int{5}, 1, 0, same(through, 3), api.ErrRange},
		{"a negative round", []int{5}, 2, -4, same(through, 3), api.ErrRange},
		{"one too great a round", []int{5}, 8, 17, same(through, 3), api.ErrRange},
		{"a round in its lowest bits", []int{5}, 2, 1<<32 + 4, same(through, 3), api.ErrRange},
		{"the least round of all", []int{5}, 2, math.MinInt, same(through, 3), api.ErrRange},
		{"the greatest round of all", []int{5}, 2, math.MaxInt, same(through, 3), api.ErrRange},
	}
	for _, c := range cases {
		got, known, err := srep.Run(c.data, c.win, c.round, c.fates)
		if len(got) > 0 || known != 0 || plain.Told(err) != c.err {
			t.Errorf("%s: Run is %v, %d, %v; want none, 0, %v", c.name, got, known, err, c.err)
		}
	}
}

// R11.1: the errors are those of gbn.Check, about all bounds.
func TestErrorsAreThoseOfCheck(t *testing.T) {
	check := func(data []int, win, round int, fates []api.Fate) {
		want := plain.Told(gbn.Check(data, win, round, fates))
		if _, _, err := srep.Run(data, win, round, fates); plain.Told(err) != want {
			t.Errorf("Run(%v, %d, %d) with %d fates is %v; want %v", data, win, round, len(fates), err, want)
		}
	}
	for win := -3; win <= 20; win++ {
		for round := -3; round <= 20; round++ {
			check([]int{5}, win, round, []api.Fate{through})
		}
	}
	for n := range api.MaxData + 2 {
		for _, m := range []int{0, 1, api.MaxScript, api.MaxScript + 1} {
			for _, last := range []int{-1, 0, 1000, 1001} {
				check(append(count(n), last), 2, 4, same(lost, m))
			}
		}
	}
}

// R11.1: arguments stay as they are, with their spare capacity, and results share no memory with them or with each other.
func TestMemory(t *testing.T) {
	data := []int{5, 6, 7, 8, 9}
	fates := []api.Fate{lost, unheard, through, through, through, through, unheard, lost}
	wantData, wantFates := slices.Clone(data), slices.Clone(fates)
	first, _, err := srep.Run(data[:3], 2, 4, fates[:6])
	if err != nil {
		t.Fatal(err)
	}
	second, known, err := srep.Run(data[:3], 2, 4, fates[:6])
	if err != nil {
		t.Fatal(err)
	}
	first = append(first[:0], 100, 101, 102, 103)
	if !slices.Equal(data, wantData) || !slices.Equal(fates, wantFates) {
		t.Errorf("the arguments are %v, %v; want %v, %v", data, fates, wantData, wantFates)
	}
	data[0], fates[0] = 200, through
	if want := []int{5, 6, 7}; !slices.Equal(second, want) || known != 3 {
		t.Errorf("the second result is %v, %d; want %v, 3", second, known, want)
	}
	if want := []int{100, 101, 102, 103}; !slices.Equal(first, want) {
		t.Errorf("the changed first result is %v; want %v", first, want)
	}
}

// R11.1: a run does not depend on the runs before it.
func TestRunsAreApart(t *testing.T) {
	for before := range scripts(3, through, lost, unheard, bothLost) {
		if _, _, err := srep.Run(count(3), 2, 2, before); err != nil {
			t.Fatal(err)
		}
		got, known, err := srep.Run([]int{5, 6}, 2, 2, []api.Fate{unheard, unheard, through})
		if want := []int{5, 6, 5}; !slices.Equal(got, want) || known != 1 || err != nil {
			t.Fatalf("after Run with %v, Run is %v, %d, %v; want %v, 1", before, got, known, err, want)
		}
	}
}
