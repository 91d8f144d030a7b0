package drr_test

import (
	"cmp"
	"math"
	"slices"
	"testing"

	"ferryhythe/api"
	"ferryhythe/drr"
	"ferryhythe/plain"
)

// same is a queue of n packets of one size.
func same(size, n int) []int {
	return slices.Repeat([]int{size}, n)
}

// right are queues that Check finds nothing wrong with.
var right = []struct {
	name   string
	queues [][]int
}{
	{"nil", nil},
	{"no queues", [][]int{}},
	{"one empty queue", [][]int{nil}},
	{"as many empty queues as there may be", make([][]int, 5)},
	{"the smallest packet", [][]int{{1}}},
	{"the largest packet", [][]int{{20}}},
	{"all sizes", [][]int{{1, 2, 3, 4, 5, 6, 7}, {8, 9, 10, 11, 12, 13, 14}, {15, 16, 17, 18, 19, 20}}},
	{"the longest queue, the smallest packets", [][]int{same(1, 8)}},
	{"the longest queue behind an empty one", [][]int{{}, same(20, 8)}},
	{"as many as there may be, of the largest packets", [][]int{same(20, 8), same(20, 8), same(20, 8), same(20, 8), same(20, 8)}},
}

// wrong are queues with what is wrong with them.
var wrong = []struct {
	name   string
	queues [][]int
	err    api.Errno
}{
	{"one queue too many", make([][]int, 6), api.ErrFull},
	{"many queues too many", make([][]int, 1000), api.ErrFull},
	{"one queue too many, all with packets", [][]int{{1}, {2}, {3}, {4}, {5}, {6}}, api.ErrFull},
	{"one queue too many, a size out of range in the first", [][]int{{0}, {2}, {3}, {4}, {5}, {6}}, api.ErrFull},
	{"one queue too many, a size out of range in the last", [][]int{{1}, {2}, {3}, {4}, {5}, {21}}, api.ErrFull},

	{"one packet too many", [][]int{same(1, 9)}, api.ErrFull},
	{"many packets too many", [][]int{same(20, 1000)}, api.ErrFull},
	{"one packet too many in the last queue", [][]int{{1}, {}, {2}, {}, same(3, 9)}, api.ErrFull},
	{"one packet too many, the first out of range", [][]int{append([]int{0}, same(1, 8)...)}, api.ErrFull},
	{"one packet too many, the last out of range", [][]int{append(same(1, 8), 21)}, api.ErrFull},
	{"one packet too many, all out of range", [][]int{same(-1, 9)}, api.ErrFull},
	{"one packet too many in front of a size out of range", [][]int{same(1, 9), {0}}, api.ErrFull},

	{"a size of 0", [][]int{{0}}, api.ErrRange},
	{"a negative size", [][]int{{-1}}, api.ErrRange},
	{"a size one too large", [][]int{{21}}, api.ErrRange},
	{"the least size of all", [][]int{{math.MinInt}}, api.ErrRange},
	{"the greatest size of all", [][]int{{math.MaxInt}}, api.ErrRange},
	{"a size in its lowest bits", [][]int{{1<<32 + 3}}, api.ErrRange},
	{"a size out of range at the end", [][]int{{1, 2, 3, 0}}, api.ErrRange},
	{"a size out of range in the last queue", [][]int{{1}, {}, {2}, {}, {20, 21}}, api.ErrRange},
	{"a size out of range at the end of the longest queue", [][]int{append(same(20, 7), 21)}, api.ErrRange},
	{"a size out of range in front of one packet too many", [][]int{{0}, same(1, 9)}, api.ErrRange},
	{"a size out of range between a good queue and one packet too many", [][]int{{1}, {1, 21}, same(1, 9)}, api.ErrRange},
}

// R20.1
func TestCheck(t *testing.T) {
	for _, c := range right {
		if err := drr.Check(c.queues); err != nil {
			t.Errorf("%s: Check is %v; want nil", c.name, err)
		}
	}
	for _, c := range wrong {
		if err := drr.Check(c.queues); plain.Told(err) != c.err {
			t.Errorf("%s: Check is %v; want %v", c.name, err, c.err)
		}
	}
}

// R20.1: the sizes about the bounds, at every place of every queue.
func TestCheckSizes(t *testing.T) {
	for number := range 5 {
		for place := range 8 {
			for size := -30; size <= 50; size++ {
				queues := [][]int{same(20, 8), same(1, 8), same(20, 8), same(1, 8), same(7, 8)}
				queues[number][place] = size
				want := api.OK
				if size < 1 || size > 20 {
					want = api.ErrRange
				}
				if err := drr.Check(queues); plain.Told(err) != want {
					t.Fatalf("Check(%v) is %v; want %v", queues, err, want)
				}
			}
		}
	}
}

// R20.1: the numbers of queues and of packets about their bounds.
func TestCheckNumbers(t *testing.T) {
	for number := range 12 {
		for length := range 20 {
			queues := make([][]int, number)
			for i := range queues {
				queues[i] = same(5, length)
			}
			want := api.OK
			if number > 5 || number > 0 && length > 8 {
				want = api.ErrFull
			}
			if err := drr.Check(queues); plain.Told(err) != want {
				t.Errorf("Check of %d queues of %d packets is %v; want %v", number, length, err, want)
			}
		}
	}
}

// checkError checks that Run reports what is wrong, and returns nothing.
func checkError(t *testing.T, name string, queues [][]int, quantum int, want api.Errno) {
	t.Helper()
	got, err := drr.Run(queues, quantum)
	if len(got) != 0 || plain.Told(err) != want {
		t.Errorf("%s: Run with quantum %d is %v, %v; want nothing, %v", name, quantum, got, err, want)
	}
}

// R20.2: what is wrong with the queues comes before the quantum.
func TestRunErrors(t *testing.T) {
	quanta := []int{math.MinInt, -21, -20, -1, 0, 21, 22, 1<<32 + 3, math.MaxInt}
	for _, c := range wrong {
		for _, quantum := range append([]int{1, 7, 20}, quanta...) {
			checkError(t, c.name, c.queues, quantum, c.err)
		}
	}
	for _, c := range right {
		for _, quantum := range quanta {
			checkError(t, c.name, c.queues, quantum, api.ErrRange)
		}
		for quantum := 1; quantum <= 20; quantum++ {
			if _, err := drr.Run(c.queues, quantum); err != nil {
				t.Errorf("%s: Run with quantum %d is %v; want nil", c.name, quantum, err)
			}
		}
	}
}

// checkRun compares what Run returns with what it should.
func checkRun(t *testing.T, queues [][]int, quantum int, want []int) {
	t.Helper()
	got, err := drr.Run(queues, quantum)
	if !slices.Equal(got, want) || err != nil {
		t.Fatalf("Run(%v, %d) is %v, %v; want %v", queues, quantum, got, err, want)
	}
}

// R20.2
func TestRun(t *testing.T) {
	cases := []struct {
		queues  [][]int
		quantum int
		want    []int
	}{
		// the example of the document
		{[][]int{{3, 3}, {1, 1, 1, 1}}, 3, []int{0, 1, 1, 1, 0, 1}},

		// nothing to serve
		{nil, 1, nil},
		{[][]int{}, 20, nil},
		{[][]int{{}}, 1, nil},
		{[][]int{nil, {}, nil, {}, nil}, 20, nil},

		// one queue
		{[][]int{{1}}, 1, []int{0}},
		{[][]int{{20}}, 1, []int{0}},
		{[][]int{{1, 20, 1}}, 1, []int{0, 0, 0}},

		// empty queues are skipped, and count
		{[][]int{{}, {1}, nil, {1}, {}}, 1, []int{1, 3}},
		{[][]int{nil, nil, nil, nil, {2, 2}}, 3, []int{4, 4}},

		// a packet of exactly the counter is served, and one larger by 1 is not
		{[][]int{{4}, {1}}, 4, []int{0, 1}},
		{[][]int{{5}, {1}}, 4, []int{1, 0}},
		{[][]int{{8}, {5}, {1}}, 4, []int{2, 0, 1}},
		{[][]int{{9}, {5}, {1, 8}}, 4, []int{2, 1, 0, 2}},

		// what is left of the counter is kept
		{[][]int{{2, 4}, {3, 3}}, 3, []int{0, 1, 0, 1}},
		{[][]int{{2, 5}, {3, 3}}, 3, []int{0, 1, 1, 0}},
		{[][]int{{1, 1, 4}, {3, 3}}, 3, []int{0, 0, 1, 0, 1}},
		{[][]int{{1, 1, 5}, {3, 3}}, 3, []int{0, 0, 1, 1, 0}},

		// a large packet keeps the smaller ones behind it waiting
		{[][]int{{7, 1, 1}, {2, 2, 2, 2}}, 2, []int{1, 1, 1, 0, 0, 1, 0}},

		// the round goes on where a queue has become empty
		{[][]int{{1}, {1, 1}, {1, 1, 1}}, 1, []int{0, 1, 2, 1, 2, 2}},
		{[][]int{{1, 1, 1}, {1}, {1, 1}}, 1, []int{0, 1, 2, 0, 2, 0}},
		{[][]int{{1, 1}, {1}, {1, 1}, {1}, {1}}, 1, []int{0, 1, 2, 3, 4, 0, 2}},

		// equal shares by size
		{[][]int{{6, 6}, {3, 3, 3, 3}, {2, 2, 2, 2, 2, 2}}, 6, []int{0, 1, 1, 2, 2, 2, 0, 1, 1, 2, 2, 2}},

		// the quantum of one packet serves several, and all of them
		{[][]int{{1, 2, 3}, {20}}, 20, []int{0, 0, 0, 1}},
		{[][]int{{10, 10, 10}, {1, 1}}, 20, []int{0, 0, 1, 1, 0}},
		{[][]int{same(20, 8), same(1, 8)}, 1, []int{1, 1, 1, 1, 1, 1, 1, 1, 0, 0, 0, 0, 0, 0, 0, 0}},
		{[][]int{same(1, 8), same(20, 8)}, 20, []int{0, 0, 0, 0, 0, 0, 0, 0, 1, 1, 1, 1, 1, 1, 1, 1}},
	}
	for _, c := range cases {
		checkRun(t, c.queues, c.quantum, c.want)
	}
}

// served finds what Run returns without a round: as nothing of a counter is lost before its queue is empty, a packet is
// served in the first visit in which the quanta so far are as much as all packets up to it.
func served(queues [][]int, quantum int) []int {
	type packet struct{ visit, number int }
	var packets []packet
	for number, sizes := range queues {
		sum := 0
		for _, size := range sizes {
			sum += size
			packets = append(packets, packet{(sum + quantum - 1) / quantum, number})
		}
	}
	slices.SortFunc(packets, func(p, q packet) int {
		return cmp.Or(cmp.Compare(p.visit, q.visit), cmp.Compare(p.number, q.number))
	})
	var l []int
	for _, p := range packets {
		l = append(l, p.number)
	}
	return l
}

// short returns every queue of up to length packets, each of at most greatest.
func short(length, greatest int) [][]int {
	all := [][]int{nil}
	last := all
	for range length {
		var longer [][]int
		for _, sizes := range last {
			for size := 1; size <= greatest; size++ {
				longer = append(longer, append(slices.Clone(sizes), size))
			}
		}
		all = append(all, longer...)
		last = longer
	}
	return all
}

// R20.2: every two and every three short queues.
func TestRunShort(t *testing.T) {
	for _, first := range short(3, 4) {
		for _, second := range short(3, 4) {
			for quantum := 1; quantum <= 5; quantum++ {
				queues := [][]int{first, second}
				checkRun(t, queues, quantum, served(queues, quantum))
			}
		}
	}
	for _, first := range short(2, 4) {
		for _, second := range short(2, 4) {
			for _, third := range short(2, 4) {
				for quantum := 1; quantum <= 5; quantum++ {
					queues := [][]int{first, second, third}
					checkRun(t, queues, quantum, served(queues, quantum))
				}
			}
		}
	}
}

// some returns queues of all numbers, lengths and sizes, others for each seed.
func some(seed uint32) [][]int {
	next := func(limit int) int {
		seed = seed*1_664_525 + 1_013_904_223
		return int(seed>>8) % limit
	}
	queues := make([][]int, next(6))
	greatest := 1 + next(20)
	for i := range queues {
		queues[i] = make([]int, next(9))
		for k := range queues[i] {
			queues[i][k] = 1 + next(greatest)
		}
	}
	return queues
}

// R20.2: many queues up to the longest and the largest packets, with every quantum.
func TestRunLong(t *testing.T) {
	for seed := range uint32(3000) {
		queues := some(seed)
		for quantum := 1; quantum <= 20; quantum++ {
			checkRun(t, queues, quantum, served(queues, quantum))
		}
	}
}

// R20.2: no queue gets far ahead of one that waits, and every packet is served once.
func TestRunIsFair(t *testing.T) {
	for seed := range uint32(1000) {
		queues := some(seed)
		for quantum := 1; quantum <= 20; quantum++ {
			order, err := drr.Run(queues, quantum)
			if err != nil {
				t.Fatal(err)
			}
			checkFair(t, queues, quantum, order)
		}
	}
}

// checkFair checks that no queue is further ahead of one that waits than by the quantum and what the first packet of that one lacks.
func checkFair(t *testing.T, queues [][]int, quantum int, order []int) {
	t.Helper()
	next, sums := make([]int, len(queues)), make([]int, len(queues))
	for _, number := range order {
		sums[number] += queues[number][next[number]]
		next[number]++
		for other := range queues {
			if next[other] < len(queues[other]) && sums[number]-sums[other] > quantum+queues[other][next[other]]-1 {
				t.Fatalf("Run(%v, %d) is %v: queue %d is too far ahead of queue %d", queues, quantum, order, number, other)
			}
		}
	}
	for number := range queues {
		if next[number] != len(queues[number]) {
			t.Fatalf("Run(%v, %d) is %v: it serves %d packets of queue %d", queues, quantum, order, next[number], number)
		}
	}
}

// Z2: arguments and their spare capacity stay as they are, and results have memory of their own.
func TestMemory(t *testing.T) {
	memory := []int{3, 3, 1, 1, 1, 1, 77, 78}
	all := [][]int{memory[:2], memory[2:6], {9}}
	queues := all[:2]
	one, err := drr.Run(queues, 3)
	if err != nil {
		t.Fatal(err)
	}
	two, _ := drr.Run(queues, 3)
	checkError(t, "no quantum", queues, 0, api.ErrRange)
	if err := drr.Check(queues); err != nil {
		t.Fatal(err)
	}
	one = append(one[:0], 100, 101, 102, 103, 104, 105, 106)
	if !slices.Equal(memory, []int{3, 3, 1, 1, 1, 1, 77, 78}) {
		t.Errorf("the memory of the packets is %v", memory)
	}
	if len(all[0]) != 2 || len(all[1]) != 4 || !slices.Equal(all[2], []int{9}) {
		t.Errorf("the memory of the queues is %v", all)
	}
	clear(memory)
	clear(all)
	if !slices.Equal(two, []int{0, 1, 1, 1, 0, 1}) || !slices.Equal(one, []int{100, 101, 102, 103, 104, 105, 106}) {
		t.Errorf("the results have become %v and %v", one, two)
	}
}

// Z2: a call does not depend on those before it, and all queues may be the same one.
func TestAgain(t *testing.T) {
	f := []int{2, 1}
	queues := [][]int{f, f, f}
	for range 3 {
		checkRun(t, queues, 2, []int{0, 1, 2, 0, 1, 2})
		checkRun(t, queues, 3, []int{0, 0, 1, 1, 2, 2})
		checkError(t, "one packet too many", [][]int{same(1, 9)}, 2, api.ErrFull)
	}
}
