package rounds_test

import (
	"math"
	"slices"
	"testing"

	"ferryhythe/api"
	"ferryhythe/drr"
	"ferryhythe/plain"
	"ferryhythe/rounds"
)

// same is a queue of n packets of one size.
func same(size, n int) []int {
	return slices.Repeat([]int{size}, n)
}

// checkBoth compares what Run and Bits return with what they should.
func checkBoth(t *testing.T, queues [][]int, order, ends, bits []int) {
	t.Helper()
	gotOrder, gotEnds, err := rounds.Run(queues)
	if !slices.Equal(gotOrder, order) || !slices.Equal(gotEnds, ends) || err != nil {
		t.Fatalf("Run(%v) is %v, %v, %v; want %v, %v", queues, gotOrder, gotEnds, err, order, ends)
	}
	gotBits, err := rounds.Bits(queues)
	if !slices.Equal(gotBits, bits) || err != nil {
		t.Fatalf("Bits(%v) is %v, %v; want %v", queues, gotBits, err, bits)
	}
}

// checkError checks that Run and Bits report what is wrong, and return nothing.
func checkError(t *testing.T, name string, queues [][]int, want api.Errno) {
	t.Helper()
	order, ends, err := rounds.Run(queues)
	if len(order) != 0 || len(ends) != 0 || plain.Told(err) != want {
		t.Errorf("%s: Run is %v, %v, %v; want nothing, %v", name, order, ends, err, want)
	}
	bits, err := rounds.Bits(queues)
	if len(bits) != 0 || plain.Told(err) != want {
		t.Errorf("%s: Bits is %v, %v; want nothing, %v", name, bits, err, want)
	}
}

// R21.1 and R21.2
func TestRunAndBits(t *testing.T) {
	cases := []struct {
		queues            [][]int
		order, ends, bits []int
	}{
		// the example of the document
		{[][]int{{5}, {2, 2}}, []int{1, 1, 0}, []int{2, 4, 9}, []int{4, 8, 9}},

		// nothing to serve
		{nil, nil, nil, nil},
		{[][]int{}, nil, nil, nil},
		{[][]int{{}}, nil, nil, nil},
		{[][]int{nil, {}, nil, {}, nil}, nil, nil, nil},

		// one queue has the link for itself
		{[][]int{{1}}, []int{0}, []int{1}, []int{1}},
		{[][]int{{20}}, []int{0}, []int{20}, []int{20}},
		{[][]int{{3, 1, 20}}, []int{0, 0, 0}, []int{3, 4, 24}, []int{3, 4, 24}},
		{[][]int{same(20, 8)}, same(0, 8), []int{20, 40, 60, 80, 100, 120, 140, 160}, []int{20, 40, 60, 80, 100, 120, 140, 160}},

		// empty queues count, but have no bits
		{[][]int{{}, {2}, nil, {1}, {}}, []int{3, 1}, []int{1, 3}, []int{2, 3}},
		{[][]int{nil, nil, nil, nil, {2, 2}}, []int{4, 4}, []int{2, 4}, []int{2, 4}},

		// equal rounds: the smaller queue number first, whichever packet is larger
		{[][]int{{2}, {2}}, []int{0, 1}, []int{2, 4}, []int{4, 4}},
		{[][]int{{3}, {2, 1}}, []int{1, 0, 1}, []int{2, 5, 6}, []int{4, 6, 6}},
		{[][]int{{2, 1}, {3}}, []int{0, 0, 1}, []int{2, 3, 6}, []int{4, 6, 6}},
		{[][]int{{7}, {7}, {7}, {7}, {7}}, []int{0, 1, 2, 3, 4}, []int{7, 14, 21, 28, 35}, same(35, 5)},
		{[][]int{{1, 1}, {1, 1}, {2}}, []int{0, 1, 0, 1, 2}, []int{1, 2, 3, 4, 6}, []int{3, 3, 6, 6, 6}},

		// rounds that differ by 1
		{[][]int{{3}, {2}}, []int{1, 0}, []int{2, 5}, []int{4, 5}},
		{[][]int{{2}, {3}}, []int{0, 1}, []int{2, 5}, []int{4, 5}},

		// the round decides, not the size: a small packet waits behind a large one of its queue
		{[][]int{{20, 1}, {7, 7, 7}}, []int{1, 1, 0, 0, 1}, []int{7, 14, 34, 35, 42}, []int{14, 28, 40, 42, 42}},
		{[][]int{{10, 1}, {11, 1}, {12, 1}}, []int{0, 0, 1, 1, 2, 2}, []int{10, 11, 22, 23, 35, 36}, []int{30, 33, 33, 35, 35, 36}},

		// a queue with nothing left takes no part in later rounds
		{[][]int{{1}, {2}, {4}}, []int{0, 1, 2}, []int{1, 3, 7}, []int{3, 5, 7}},
		{[][]int{{1}, {3, 3}, {5, 5}}, []int{0, 1, 2, 1, 2}, []int{1, 4, 9, 12, 17}, []int{3, 7, 11, 13, 17}},
		{[][]int{same(1, 8), {20}}, []int{0, 0, 0, 0, 0, 0, 0, 0, 1}, []int{1, 2, 3, 4, 5, 6, 7, 8, 28}, []int{2, 4, 6, 8, 10, 12, 14, 16, 28}},
		{[][]int{{20}, same(1, 8)}, []int{1, 1, 1, 1, 1, 1, 1, 1, 0}, []int{1, 2, 3, 4, 5, 6, 7, 8, 28}, []int{2, 4, 6, 8, 10, 12, 14, 16, 28}},
	}
	for _, c := range cases {
		checkBoth(t, c.queues, c.order, c.ends, c.bits)
	}
}

// R21.1 and R21.2: the errors of drr.Check, in its order.
func TestErrors(t *testing.T) {
	wrong := []struct {
		name   string
		queues [][]int
		err    api.Errno
	}{
		{"one queue too many", make([][]int, 6), api.ErrFull},
		{"many queues too many", make([][]int, 1000), api.ErrFull},
		{"one queue too many, all with packets", [][]int{{1}, {2}, {3}, {4}, {5}, {6}}, api.ErrFull},
		{"one queue too many, a size out of range in the first", [][]int{{0}, {2}, {3}, {4}, {5}, {6}}, api.ErrFull},
		{"one queue too many, a size out of range in the last", [][]int{{1}, {2}, {3}, {4}, {5}, {21}}, api.ErrFull},

		{"one packet too many", [][]int{same(1, 9)}, api.ErrFull},
		{"many packets too many", [][]int{same(20, 1000)}, api.ErrFull},
		{"one packet too many in the last queue", [][]int{{1}, {}, {2}, {}, same(3, 9)}, api.ErrFull},
		{"one packet too many, the first out of range", [][]int{append([]int{0}, same(1, 8)...)}, api.ErrFull},
		{"one packet too many, the last out of range", [][]int{append(same(1, 8), 21)}, api.ErrFull},
		{"one packet too many in front of a size out of range", [][]int{same(1, 9), {0}}, api.ErrFull},

		{"a size of 0", [][]int{{0}}, api.ErrRange},
		{"a negative size", [][]int{{-1}}, api.ErrRange},
		{"a size one too large", [][]int{{21}}, api.ErrRange},
		{"the least size of all", [][]int{{math.MinInt}}, api.ErrRange},
		{"the greatest size of all", [][]int{{math.MaxInt}}, api.ErrRange},
		{"the greatest size of all, twice", [][]int{{math.MaxInt, math.MaxInt}}, api.ErrRange},
		{"a size in its lowest bits", [][]int{{1<<32 + 3}}, api.ErrRange},
		{"a size out of range behind good ones", [][]int{{1, 2, 3, 0}}, api.ErrRange},
		{"a size out of range in the last queue", [][]int{{1}, {}, {2}, {}, {20, 21}}, api.ErrRange},
		{"a size out of range at the end of the longest queue", [][]int{append(same(20, 7), 21)}, api.ErrRange},
		{"a size out of range in front of one packet too many", [][]int{{0}, same(1, 9)}, api.ErrRange},
	}
	for _, c := range wrong {
		checkError(t, c.name, c.queues, c.err)
	}
}

// R21.1 and R21.2: Run and Bits report just what drr.Check does, for numbers and sizes about the bounds.
func TestErrorsOfCheck(t *testing.T) {
	for number := range 8 {
		for length := range 11 {
			for _, size := range []int{-1, 0, 1, 2, 19, 20, 21, 22} {
				queues := make([][]int, number)
				for i := range queues {
					queues[i] = same(5, length)
				}
				if number > 0 && length > 0 {
					queues[number-1][length-1] = size
				}
				if want := plain.Told(drr.Check(queues)); want != api.OK {
					checkError(t, "about the bounds", queues, want)
					continue
				}
				checkServed(t, queues)
			}
		}
	}
}

// checkServed compares Run and Bits with a server that takes, round by round, one bit from each queue that has any: a
// packet is served when the round of its last bit is over.
func checkServed(t *testing.T, queues [][]int) {
	t.Helper()
	var order, ends, bits []int
	next, had := make([]int, len(queues)), make([]int, len(queues))
	clock, served := 0, 0
	for busy := true; busy; {
		busy = false
		var done []int
		for number, sizes := range queues {
			if next[number] == len(sizes) {
				continue
			}
			busy = true
			clock++
			had[number]++
			if had[number] == sizes[next[number]] {
				done = append(done, number)
				had[number] = 0
				next[number]++
			}
		}
		for _, number := range done {
			served += queues[number][next[number]-1]
			order, ends, bits = append(order, number), append(ends, served), append(bits, clock)
		}
	}
	checkBoth(t, queues, order, ends, bits)
}

// short returns every queue of up to length packets, each of at most greatest.
func short(length, greatest int) [][]int {
	all := [][]int{nil}
	last := all
	for range length {
		var longer [][]int
		for _, sizes := range last {
			for size := 1; size <= greatest; size++ {
				longer = append(longer, append(slices.Clone(sizes), size))
			}
		}
		all = append(all, longer...)
		last = longer
	}
	return all
}

// R21.1 and R21.2: every two and every three short queues.
func TestShort(t *testing.T) {
	for _, first := range short(4, 4) {
		for _, second := range short(4, 4) {
			checkServed(t, [][]int{first, second})
		}
	}
	for _, first := range short(3, 3) {
		for _, second := range short(3, 3) {
			for _, third := range short(3, 3) {
				checkServed(t, [][]int{first, second, third})
			}
		}
	}
}

// some returns queues of all numbers, lengths and sizes, others for each seed.
func some(seed uint32) [][]int {
	next := func(limit int) int {
		seed = seed*1_664_525 + 1_013_904_223
		return int(seed>>8) % limit
	}
	queues := make([][]int, next(6))
	greatest := 1 + next(20)
	for i := range queues {
		queues[i] = make([]int, next(9))
		for k := range queues[i] {
			queues[i][k] = 1 + next(greatest)
		}
	}
	return queues
}

// R21.1 and R21.2: many queues up to the longest and the largest packets.
func TestLong(t *testing.T) {
	for seed := range uint32(20_000) {
		checkServed(t, some(seed))
	}
	checkServed(t, [][]int{same(20, 8), same(20, 8), same(20, 8), same(20, 8), same(20, 8)})
	checkServed(t, [][]int{same(1, 8), same(20, 8), same(7, 8), same(20, 8), same(19, 8)})
}

// R21.1 and R21.2: served whole, no packet is finished later than bit by bit, and the last one at the same time.
func TestNotLater(t *testing.T) {
	for seed := range uint32(5000) {
		queues := some(seed)
		_, ends, err := rounds.Run(queues)
		bits, bitsErr := rounds.Bits(queues)
		if err != nil || bitsErr != nil || len(ends) != len(bits) {
			t.Fatalf("%v: %v, %v; %v, %v", queues, ends, err, bits, bitsErr)
		}
		for i := range ends {
			if ends[i] > bits[i] {
				t.Fatalf("%v: packet %d is finished at %d, and bit by bit at %d", queues, i, ends[i], bits[i])
			}
		}
		if n := len(ends); n > 0 && ends[n-1] != bits[n-1] {
			t.Fatalf("%v: all is finished at %d, and bit by bit at %d", queues, ends[n-1], bits[n-1])
		}
	}
}

// Z2: arguments and their spare capacity stay as they are, and results have memory of their own.
func TestMemory(t *testing.T) {
	memory := []int{5, 2, 2, 77, 78}
	all := [][]int{memory[:1], memory[1:3], {9}}
	queues := all[:2]
	order, ends, err := rounds.Run(queues)
	if err != nil {
		t.Fatal(err)
	}
	bits, err := rounds.Bits(queues)
	if err != nil {
		t.Fatal(err)
	}
	if !slices.Equal(memory, []int{5, 2, 2, 77, 78}) {
		t.Errorf("the memory of the packets is %v", memory)
	}
	if len(all[0]) != 1 || len(all[1]) != 2 || !slices.Equal(all[2], []int{9}) {
		t.Errorf("the memory of the queues is %v", all)
	}
	// What is written into one result, and behind it, is seen in no other.
	longer := append(order, 100, 101, 102, 103)
	clear(longer)
	clear(memory)
	clear(all)
	if !slices.Equal(ends, []int{2, 4, 9}) || !slices.Equal(bits, []int{4, 8, 9}) {
		t.Errorf("the results have become %v and %v", ends, bits)
	}
	clear(ends[:cap(ends)])
	if !slices.Equal(bits, []int{4, 8, 9}) {
		t.Errorf("the result of Bits has become %v", bits)
	}
}

// Z2: a call does not depend on those before it, and all queues may be the same one.
func TestAgain(t *testing.T) {
	f := []int{2, 1}
	for range 3 {
		checkBoth(t, [][]int{f, f, f}, []int{0, 1, 2, 0, 1, 2}, []int{2, 4, 6, 7, 8, 9}, []int{6, 6, 6, 9, 9, 9})
		checkError(t, "one packet too many", [][]int{same(1, 9)}, api.ErrFull)
		checkBoth(t, [][]int{{5}, {2, 2}}, []int{1, 1, 0}, []int{2, 4, 9}, []int{4, 8, 9})
	}
}
