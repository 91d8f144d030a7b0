package abp_test

import (
	"iter"
	"math"
	"slices"
	"testing"

	"ferryhythe/abp"
	"ferryhythe/api"
	"ferryhythe/plain"
)

var (
	through  = api.Fate{}                        // packet and acknowledgment arrive
	lost     = api.Fate{There: true}             // the packet is lost
	unheard  = api.Fate{Back: true}              // the acknowledgment is lost
	bothLost = api.Fate{There: true, Back: true} // the packet is lost, so that there is no acknowledgment to lose
)

// count are the n elements from 1 on.
func count(n int) []int {
	var l []int
	for i := range n {
		l = append(l, i+1)
	}
	return l
}

// same are n fates, all equal to f.
func same(f api.Fate, n int) []api.Fate {
	return slices.Repeat([]api.Fate{f}, n)
}

// scripts yields every list of at most limit fates.
func scripts(limit int) iter.Seq[[]api.Fate] {
	return func(yield func([]api.Fate) bool) {
		if !yield(nil) || limit == 0 {
			return
		}
		for l := range scripts(limit - 1) {
			for _, f := range []api.Fate{through, lost, unheard, bothLost} {
				if !yield(append(slices.Clone(l), f)) {
					return
				}
			}
		}
	}
}

// right are arguments that Check finds nothing wrong with.
var right = []struct {
	name  string
	data  []int
	fates []api.Fate
}{
	{"nothing", nil, nil},
	{"empty lists", []int{}, []api.Fate{}},
	{"an element without a fate", []int{5}, nil},
	{"a fate without an element", nil, []api.Fate{through}},
	{"the least element", []int{0}, []api.Fate{through}},
	{"the greatest element", []int{1000}, []api.Fate{through}},
	{"every kind of fate", []int{5}, []api.Fate{lost, unheard, bothLost, through}},
	{"most elements", slices.Repeat([]int{1000}, 20), nil},
	{"most fates", nil, same(unheard, 200)},
	{"most elements and fates", slices.Repeat([]int{0}, 20), same(bothLost, 200)},
}

// wrong are arguments with what is wrong with them.
var wrong = []struct {
	name  string
	data  []int
	fates []api.Fate
	err   api.Errno
}{
	{"one element too many", count(21), nil, api.ErrFull},
	{"one element too many, most fates", count(21), same(through, 200), api.ErrFull},
	{"too many elements by far", count(100_000), []api.Fate{through}, api.ErrFull},
	{"one fate too many", nil, same(through, 201), api.ErrFull},
	{"one fate too many, most elements", count(20), same(lost, 201), api.ErrFull},
	{"too many fates by far", []int{5}, same(bothLost, 100_000), api.ErrFull},
	{"too many of both", count(21), same(through, 201), api.ErrFull},

	{"too many elements, all negative", slices.Repeat([]int{-1}, 21), nil, api.ErrFull},
	{"too many elements, the last one too great", append(count(20), 1001), []api.Fate{through}, api.ErrFull},
	{"too many fates, a negative element", []int{-1}, same(through, 201), api.ErrFull},
	{"too many fates, too great an element", []int{5, 1001}, same(through, 201), api.ErrFull},

	{"a negative element", []int{-1}, nil, api.ErrRange},
	{"a negative element with fates", []int{-1}, same(through, 3), api.ErrRange},
	{"a negative element that is never sent", []int{5, 6, -1}, []api.Fate{lost}, api.ErrRange},
	{"too great an element", []int{1001}, nil, api.ErrRange},
	{"too great an element among others", []int{5, 1001, 6}, same(through, 3), api.ErrRange},
	{"an element in its lowest bits", []int{1<<32 + 5}, nil, api.ErrRange},
	{"the least integer", []int{math.MinInt}, nil, api.ErrRange},
	{"the greatest integer", []int{math.MaxInt}, nil, api.ErrRange},
	{"the first of most elements", append([]int{1001}, count(19)...), same(through, 200), api.ErrRange},
	{"the last of most elements", append(count(19), -1), same(through, 200), api.ErrRange},
}

// R9.1
func TestCheck(t *testing.T) {
	for _, c := range right {
		if err := abp.Check(c.data, c.fates); err != nil {
			t.Errorf("%s: Check is %v; want nil", c.name, err)
		}
	}
	for value := range api.MaxValue + 1 {
		if err := abp.Check([]int{value}, nil); err != nil {
			t.Errorf("Check of [%d] is %v; want nil", value, err)
		}
	}
}

// R9.1
func TestErrorsOfCheck(t *testing.T) {
	for _, c := range wrong {
		if err := abp.Check(c.data, c.fates); plain.Told(err) != c.err {
			t.Errorf("%s: Check is %v; want %v", c.name, err, c.err)
		}
	}
}

// R9.1: as many elements and fates as may be, and one more of each.
func TestCheckCounts(t *testing.T) {
	for n := range api.MaxData + 2 {
		for m := range api.MaxScript + 2 {
			want := api.OK
			if n == 21 || m == 201 {
				want = api.ErrFull
			}
			if err := abp.Check(count(n), same(through, m)); plain.Told(err) != want {
				t.Errorf("Check of %d elements and %d fates is %v; want %v", n, m, err, want)
			}
		}
	}
}

// R9.2
func TestRun(t *testing.T) {
	cases := []struct {
		name  string
		data  []int
		fates []api.Fate
		got   []int
		known int
	}{
		{"the first acknowledgment is lost", []int{5, 6}, []api.Fate{unheard, through, through}, []int{5, 6}, 2},
		{"nothing to send, no fate", nil, nil, nil, 0},
		{"nothing to send", nil, []api.Fate{through, unheard}, nil, 0},
		{"no fate", []int{5, 6}, nil, nil, 0},
		{"none is lost", []int{5, 6, 7}, same(through, 3), []int{5, 6, 7}, 3},
		{"fates end in between", []int{5, 6, 7}, same(through, 2), []int{5, 6}, 2},
		{"fates behind the last acknowledgment", []int{5}, []api.Fate{through, through, unheard, lost}, []int{5}, 1},
		{"the packet is lost", []int{5}, []api.Fate{lost}, nil, 0},
		{"the packet and no acknowledgment are lost", []int{5}, []api.Fate{bothLost}, nil, 0},
		{"the packet is lost, then not", []int{5}, []api.Fate{lost, through}, []int{5}, 1},
		{"both are said to be lost, then none", []int{5, 6}, []api.Fate{bothLost, through}, []int{5}, 1},
		{"the acknowledgment is lost", []int{5}, []api.Fate{unheard}, []int{5}, 0},
		{"every acknowledgment is lost", []int{5, 6}, same(unheard, 5), []int{5}, 0},
		{"the acknowledgment is lost, then the packet", []int{5, 6}, []api.Fate{unheard, lost, through, through}, []int{5, 6}, 2},
		{"every acknowledgment is lost once", []int{5, 6, 7}, []api.Fate{unheard, through, unheard, through, unheard, through}, []int{5, 6, 7}, 3},
		{"the last acknowledgment is lost", []int{5, 6}, []api.Fate{through, unheard}, []int{5, 6}, 1},
		{"the last packet is lost", []int{5, 6}, []api.Fate{through, lost}, []int{5}, 1},
		{"equal elements", []int{5, 5, 5}, []api.Fate{unheard, through, through, through}, []int{5, 5, 5}, 3},
		{"the least and the greatest element", []int{0, 1000, 0}, same(through, 3), []int{0, 1000, 0}, 3},
		{"most elements", count(20), same(through, 20), count(20), 20},
		{"most elements, most fates", count(20), same(through, 200), count(20), 20},
		{"only the last of most fates is not lost", []int{5, 6}, append(same(lost, 199), through), []int{5}, 1},
		{"all of most fates are lost", count(20), same(bothLost, 200), nil, 0},
	}
	for _, c := range cases {
		got, known, err := abp.Run(c.data, c.fates)
		if !slices.Equal(got, c.got) || known != c.known || err != nil {
			t.Errorf("%s: Run(%v, %v) is %v, %d, %v; want %v, %d", c.name, c.data, c.fates, got, known, err, c.got, c.known)
		}
	}
}

// R9.2: of every short script, and of every short script between others up to the limits.
func TestRunOfAllScripts(t *testing.T) {
	for script := range scripts(7) {
		for n := range 5 {
			checkRun(t, count(n), script)
		}
		checkRun(t, slices.Repeat([]int{5}, 3), script)
	}
	for script := range scripts(4) {
		for _, n := range []int{1, 5, 19, 20} {
			checkRun(t, count(n), slices.Repeat(script, 200/max(1, len(script))))
			checkRun(t, count(n), append(same(through, 18), script...))
			checkRun(t, count(n), append(same(lost, 196), script...))
		}
	}
}

// checkRun compares a run with what follows from the script as a whole:
// each fate that loses nothing acknowledges an element, and one more is delivered if a packet arrives after the last of these.
func checkRun(t *testing.T, data []int, script []api.Fate) {
	t.Helper()
	known, rest := 0, script
	for known < len(data) && slices.Contains(rest, through) {
		rest = rest[slices.Index(rest, through)+1:]
		known++
	}
	want := data[:known]
	if known < len(data) && slices.Contains(rest, unheard) {
		want = data[:known+1]
	}
	got, gotKnown, err := abp.Run(data, script)
	if !slices.Equal(got, want) || gotKnown != known || err != nil {
		t.Fatalf("Run(%v, %v) is %v, %d, %v; want %v, %d", data, script, got, gotKnown, err, want, known)
	}
}

// R9.2: Run takes what Check takes.
func TestErrorsOfRun(t *testing.T) {
	for _, c := range right {
		if _, _, err := abp.Run(c.data, c.fates); err != nil {
			t.Errorf("%s: Run is %v; want no error", c.name, err)
		}
	}
	for _, c := range wrong {
		got, known, err := abp.Run(c.data, c.fates)
		if len(got) > 0 || known != 0 || plain.Told(err) != c.err {
			t.Errorf("%s: Run is %v, %d, %v; want none, 0, %v", c.name, got, known, err, c.err)
		}
	}
}

// R9.1 and R9.2: arguments stay as they are, with their spare capacity, and results share no memory with them or with each other.
func TestMemory(t *testing.T) {
	data := []int{5, 6, 7, 8, 9}
	fates := []api.Fate{unheard, through, lost, through, bothLost, unheard, bothLost}
	wantData, wantFates := slices.Clone(data), slices.Clone(fates)
	if err := abp.Check(data[:3], fates[:6]); err != nil {
		t.Fatal(err)
	}
	first, _, err := abp.Run(data[:3], fates[:6])
	if err != nil {
		t.Fatal(err)
	}
	second, known, err := abp.Run(data[:3], fates[:6])
	if err != nil {
		t.Fatal(err)
	}
	first = append(first[:0], 100, 101, 102, 103)
	if !slices.Equal(data, wantData) || !slices.Equal(fates, wantFates) {
		t.Errorf("the arguments are %v, %v; want %v, %v", data, fates, wantData, wantFates)
	}
	data[0], fates[0] = 200, lost
	if want := []int{5, 6, 7}; !slices.Equal(second, want) || known != 2 {
		t.Errorf("the second result is %v, %d; want %v, 2", second, known, want)
	}
	if want := []int{100, 101, 102, 103}; !slices.Equal(first, want) {
		t.Errorf("the changed first result is %v; want %v", first, want)
	}
}

// R9.2: a run does not depend on the runs before it.
func TestRunsAreApart(t *testing.T) {
	for before := range scripts(3) {
		if _, _, err := abp.Run(count(2), before); err != nil {
			t.Fatal(err)
		}
		checkRun(t, []int{5, 6}, []api.Fate{unheard, through, through})
	}
}
