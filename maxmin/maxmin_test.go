package maxmin_test

import (
	"math"
	"slices"
	"testing"

	"ferryhythe/api"
	"ferryhythe/maxmin"
	"ferryhythe/plain"
)

// same is n times one number.
func same(number, n int) []int {
	return slices.Repeat([]int{number}, n)
}

// checkGood checks that Check reports nothing, and that Share returns what it should.
func checkGood(t *testing.T, room []int, ways [][]int, want []int) {
	t.Helper()
	if err := maxmin.Check(room, ways); err != nil {
		t.Fatalf("Check(%v, %v) is %v; want nil", room, ways, err)
	}
	rates, err := maxmin.Share(room, ways)
	if !slices.Equal(rates, want) || err != nil {
		t.Fatalf("Share(%v, %v) is %v, %v; want %v", room, ways, rates, err, want)
	}
}

// checkError checks that Check and Share report what is wrong, and return nothing.
func checkError(t *testing.T, name string, room []int, ways [][]int, want api.Errno) {
	t.Helper()
	if err := maxmin.Check(room, ways); plain.Told(err) != want {
		t.Errorf("%s: Check is %v; want %v", name, err, want)
	}
	rates, err := maxmin.Share(room, ways)
	if len(rates) != 0 || plain.Told(err) != want {
		t.Errorf("%s: Share is %v, %v; want nothing, %v", name, rates, err, want)
	}
}

// R22.1 and R22.2
func TestShare(t *testing.T) {
	cases := []struct {
		room  []int
		ways  [][]int
		rates []int
	}{
		// the example of the document
		{[]int{10, 4}, [][]int{{0}, {0, 1}, {1}}, []int{8, 2, 2}},

		// no flows
		{nil, nil, nil},
		{[]int{}, [][]int{}, nil},
		{[]int{5, 0, 1000}, nil, nil},
		{same(1000, 6), nil, nil},

		// one flow has all that the narrowest of its links has
		{[]int{0}, [][]int{{0}}, []int{0}},
		{[]int{1}, [][]int{{0}}, []int{1}},
		{[]int{1000}, [][]int{{0}}, []int{1000}},
		{[]int{7, 3, 9}, [][]int{{0, 1, 2}}, []int{3}},
		{[]int{7, 3, 9}, [][]int{{2, 0}}, []int{7}},
		{[]int{60, 50, 40, 30, 20, 10}, [][]int{{5, 4, 3, 2, 1, 0}}, []int{10}},

		// links that nobody uses do not matter
		{[]int{0, 6, 0}, [][]int{{1}, {1}}, []int{3, 3}},
		{[]int{0, 0, 0, 0, 0, 6}, [][]int{{5}}, []int{6}},

		// what can't be given to all on a link is given to none of them
		{[]int{5}, [][]int{{0}, {0}}, []int{2, 2}},
		{[]int{1}, [][]int{{0}, {0}}, []int{0, 0}},
		{[]int{2}, [][]int{{0}, {0}}, []int{1, 1}},
		{[]int{4}, same5(0), []int{0, 0, 0, 0, 0}},
		{[]int{5}, same5(0), []int{1, 1, 1, 1, 1}},
		{[]int{999}, same5(0), []int{199, 199, 199, 199, 199}},
		{[]int{1000}, same5(0), []int{200, 200, 200, 200, 200}},

		// what some can't use is left for the others
		{[]int{10, 1}, [][]int{{0, 1}, {0}}, []int{1, 9}},
		{[]int{10, 0}, [][]int{{0, 1}, {0}}, []int{0, 10}},
		{[]int{12, 1, 3}, [][]int{{0, 1}, {0, 2}, {0}}, []int{1, 3, 8}},
		{[]int{11, 1}, [][]int{{0}, {0, 1}, {0}}, []int{5, 1, 5}},
		{[]int{12, 1}, [][]int{{0}, {0, 1}, {0}}, []int{5, 1, 5}},
		{[]int{1000, 1}, [][]int{{0, 1}, {0}}, []int{1, 999}},

		// one long flow against short ones
		{[]int{6, 6, 6}, [][]int{{0, 1, 2}, {0}, {1}, {2}}, []int{3, 3, 3, 3}},
		{[]int{6, 4, 8}, [][]int{{0, 1, 2}, {0}, {1}, {2}}, []int{2, 4, 2, 6}},

		// flows on different links do not matter to each other
		{[]int{3, 9, 0}, [][]int{{0}, {1}, {2}}, []int{3, 9, 0}},
		{[]int{1, 2, 3, 4, 1000, 0}, [][]int{{4}, {3}, {2}, {1}, {0}}, []int{1000, 4, 3, 2, 1}},

		// all on scarce links become inactive at once: one that does so spares no other
		{[]int{3, 1}, [][]int{{0, 1}, {0}}, []int{1, 1}},
		{[]int{1, 3}, [][]int{{0, 1}, {1}}, []int{1, 1}},
		{[]int{3, 1}, [][]int{{0}, {0, 1}}, []int{1, 1}},
		{[]int{1, 3}, [][]int{{1}, {1, 0}}, []int{1, 1}},
		{[]int{0, 1}, [][]int{{0, 1}, {1}}, []int{0, 0}},
		{[]int{1, 1, 1}, [][]int{{0, 1}, {1, 2}, {2}}, []int{0, 0, 0}},
		{[]int{0, 2, 2}, [][]int{{0, 1}, {1, 2}, {2}}, []int{0, 1, 1}},

		// but the next round counts without them
		{[]int{4, 1}, [][]int{{0, 1}, {0}}, []int{1, 3}},
		{[]int{0, 2, 3}, [][]int{{0, 1}, {1, 2}, {2}}, []int{0, 1, 1}},
		{[]int{0, 2, 4}, [][]int{{0, 1}, {1, 2}, {2}}, []int{0, 2, 2}},
		{[]int{0, 2, 5}, [][]int{{0, 1}, {1, 2}, {2}}, []int{0, 2, 2}},
		{[]int{0, 2, 6}, [][]int{{0, 1}, {1, 2}, {2}}, []int{0, 2, 4}},
	}
	for _, c := range cases {
		checkGood(t, c.room, c.ways, c.rates)
	}
}

// same5 is five flows over one link.
func same5(link int) [][]int {
	return [][]int{{link}, {link}, {link}, {link}, {link}}
}

// R22.1 and R22.2: the errors, in their order.
func TestErrors(t *testing.T) {
	six := []int{1, 2, 3, 4, 5, 6}
	wrong := []struct {
		name string
		room []int
		ways [][]int
		err  api.Errno
	}{
		{"one link too many", same(1, 7), nil, api.ErrFull},
		{"many links too many", same(1, 1000), nil, api.ErrFull},
		{"one flow too many", []int{1}, append(same5(0), []int{0}), api.ErrFull},
		{"many flows too many", []int{1}, make([][]int, 1000), api.ErrFull},
		{"too many of both", same(1, 7), make([][]int, 6), api.ErrFull},
		{"one link too many, and a capacity out of range", append(same(1, 6), -1), nil, api.ErrFull},
		{"one flow too many, and a capacity out of range", []int{1001}, append(same5(0), []int{0}), api.ErrFull},
		{"one link too many, and an empty flow", same(1, 7), [][]int{{}}, api.ErrFull},
		{"one flow too many, all empty", []int{1}, make([][]int, 6), api.ErrFull},
		{"one flow too many, and no links", nil, append(same5(0), []int{0}), api.ErrFull},

		{"a capacity of -1", []int{-1}, nil, api.ErrRange},
		{"a capacity one too large", []int{1001}, nil, api.ErrRange},
		{"the least capacity of all", []int{math.MinInt}, [][]int{{0}}, api.ErrRange},
		{"the greatest capacity of all", []int{math.MaxInt}, [][]int{{0}}, api.ErrRange},
		{"a capacity in its lowest bits", []int{1<<32 + 3}, [][]int{{0}}, api.ErrRange},
		{"a capacity out of range behind good ones", []int{0, 1000, 1, 2, 3, 1001}, nil, api.ErrRange},
		{"a capacity out of range, and an empty flow", []int{-1}, [][]int{{}}, api.ErrRange},
		{"a capacity out of range, and a link twice", []int{1, 1001}, [][]int{{0, 0}}, api.ErrRange},

		{"an empty flow", []int{1}, [][]int{{}}, api.ErrNone},
		{"a nil flow", []int{1}, [][]int{nil}, api.ErrNone},
		{"an empty flow without links", nil, [][]int{{}}, api.ErrNone},
		{"an empty flow behind good ones", six, [][]int{{0}, {1, 2}, {3}, {5}, {}}, api.ErrNone},
		{"an empty flow in front of a link that does not exist", []int{1}, [][]int{{}, {1}}, api.ErrNone},
		{"an empty flow in front of a link twice", []int{1}, [][]int{{}, {0, 0}}, api.ErrNone},

		{"a link without links", nil, [][]int{{0}}, api.ErrRange},
		{"a link behind the last", []int{1}, [][]int{{1}}, api.ErrRange},
		{"a link behind the last of all", six, [][]int{{6}}, api.ErrRange},
		{"a link of -1", []int{1}, [][]int{{-1}}, api.ErrRange},
		{"the least link of all", six, [][]int{{math.MinInt}}, api.ErrRange},
		{"the greatest link of all", six, [][]int{{math.MaxInt}}, api.ErrRange},
		{"a link in its lowest bits", six, [][]int{{1<<32 + 3}}, api.ErrRange},
		{"a link in the spare capacity", six[:3], [][]int{{3}}, api.ErrRange},
		{"a link that does not exist behind good ones", six, [][]int{{0, 1}, {5, 4, 3, 2, 6}}, api.ErrRange},
		{"a link that does not exist in front of an empty flow", []int{1}, [][]int{{1}, {}}, api.ErrRange},
		{"a link that does not exist in front of a link twice", []int{1}, [][]int{{1}, {0, 0}}, api.ErrRange},
		{"a link that does not exist, twice", []int{1}, [][]int{{1, 1}}, api.ErrRange},
		{"a link that does not exist behind a link twice, in one flow", []int{1}, [][]int{{0, 0, 1}}, api.ErrRange},
		{"a link of -1 behind a link twice, in one flow", []int{1, 2}, [][]int{{0, 1, 0, -1}}, api.ErrRange},
		{"a link that does not exist at the end of a very long flow", []int{1}, [][]int{append(same(0, 1000), 1)}, api.ErrRange},

		{"a link twice", []int{1}, [][]int{{0, 0}}, api.ErrClash},
		{"a link twice, not side by side", []int{1, 2}, [][]int{{0, 1, 0}}, api.ErrClash},
		{"the last link twice", six, [][]int{{5, 0, 1, 2, 3, 4, 5}}, api.ErrClash},
		{"a link very often", six, [][]int{same(3, 1000)}, api.ErrClash},
		{"a link twice in the last flow", six, [][]int{{0}, {0}, {0, 1}, {1}, {4, 2, 2}}, api.ErrClash},
		{"a link twice in front of an empty flow", []int{1}, [][]int{{0, 0}, {}}, api.ErrClash},
		{"a link twice in front of a link that does not exist", []int{1}, [][]int{{0, 0}, {1}}, api.ErrClash},
	}
	for _, c := range wrong {
		checkError(t, c.name, c.room, c.ways, c.err)
	}
}

// R22.1: all numbers of links, flows and capacities about the bounds.
func TestBounds(t *testing.T) {
	for links := range 9 {
		for flows := range 8 {
			for _, capacity := range []int{-2, -1, 0, 1, 999, 1000, 1001, 1002} {
				room := same(7, links)
				if links > 0 {
					room[links-1] = capacity
				}
				ways := make([][]int, flows)
				for i := range ways {
					ways[i] = []int{i % max(links, 1)}
				}
				switch {
				case links > 6 || flows > 5:
					checkError(t, "too many", room, ways, api.ErrFull)
				case links > 0 && (capacity < 0 || capacity > 1000):
					checkError(t, "out of range", room, ways, api.ErrRange)
				case links == 0 && flows > 0:
					checkError(t, "no links", room, ways, api.ErrRange)
				default:
					checkFilled(t, room, ways)
				}
			}
		}
	}
}

// checkFilled checks each rate by itself against the definition: it is the first at which a link of the flow has less
// left than 1 for each flow on it that has at least this rate.
func checkFilled(t *testing.T, room []int, ways [][]int) {
	t.Helper()
	if err := maxmin.Check(room, ways); err != nil {
		t.Fatalf("Check(%v, %v) is %v; want nil", room, ways, err)
	}
	rates, err := maxmin.Share(room, ways)
	if len(rates) != len(ways) || err != nil {
		t.Fatalf("Share(%v, %v) is %v, %v; want %d rates", room, ways, rates, err, len(ways))
	}
	scarce := func(link, rate int) bool {
		left, users := room[link], 0
		for i, way := range ways {
			if slices.Contains(way, link) {
				left -= min(rates[i], rate)
				if rates[i] >= rate {
					users++
				}
			}
		}
		return left < users
	}
	for i, way := range ways {
		rate := 0
		for !slices.ContainsFunc(way, func(link int) bool { return scarce(link, rate) }) && rate <= rates[i] {
			rate++
		}
		if rates[i] != rate {
			t.Fatalf("Share(%v, %v) is %v; flow %d can't have its rate", room, ways, rates, i)
		}
	}
}

// R22.2: all small capacities of three links, with up to three flows over any of them.
func TestSmall(t *testing.T) {
	all := [][]int{{0}, {1}, {0, 1}, {2}, {2, 0}, {1, 2}, {2, 1, 0}}
	sets := [][][]int{nil}
	for first := 0; len(sets[first]) < 3; first++ {
		for _, way := range all {
			sets = append(sets, append(slices.Clone(sets[first]), way))
		}
	}
	for a := range 5 {
		for b := range 5 {
			for c := range 5 {
				for _, ways := range sets {
					checkFilled(t, []int{a, b, c}, ways)
				}
			}
		}
	}
}

// some returns links and flows of all numbers, others for each seed.
func some(seed uint32) (room []int, ways [][]int) {
	next := func(limit int) int {
		seed = seed*1_664_525 + 1_013_904_223
		return int(seed>>8) % limit
	}
	room = make([]int, 1+next(6))
	greatest := 1 + next(40)
	if next(50) == 0 {
		greatest = 1000
	}
	for i := range room {
		room[i] = next(greatest + 1)
	}
	ways = make([][]int, next(6))
	for i := range ways {
		// any of the links, in any order
		var links []int
		for link := range room {
			links = slices.Insert(links, next(link+1), link)
		}
		ways[i] = links[:1+next(len(links))]
	}
	return room, ways
}

// R22.2: many links and flows up to the most of them.
func TestMany(t *testing.T) {
	for seed := range uint32(30_000) {
		room, ways := some(seed)
		checkFilled(t, room, ways)
	}
	checkFilled(t, same(1000, 6), [][]int{{0, 1, 2, 3, 4, 5}, {5, 4, 3, 2, 1, 0}, {0}, {5}, {2, 3}})
	checkFilled(t, []int{1000, 999, 998, 997, 996, 995}, [][]int{{0, 1}, {1, 2}, {2, 3}, {3, 4}, {4, 5}})
}

// R22.2: the order of the flows, and of the links in each, does not matter.
func TestOrder(t *testing.T) {
	for seed := range uint32(3000) {
		room, ways := some(seed)
		rates, err := maxmin.Share(room, ways)
		if err != nil {
			t.Fatal(err)
		}
		var turned [][]int
		for _, way := range ways {
			way = slices.Clone(way)
			slices.Reverse(way)
			turned = append(turned, way)
		}
		slices.Reverse(turned)
		slices.Reverse(rates)
		checkGood(t, room, turned, rates)
	}
}

// Z2: arguments and their spare capacity stay as they are, and results have memory of their own.
func TestMemory(t *testing.T) {
	memory := []int{10, 4, 77, 78}
	links := []int{0, 0, 1, 1, 79}
	all := [][]int{links[:1], links[1:3], links[3:4], {80}}
	room, ways := memory[:2], all[:3]
	if err := maxmin.Check(room, ways); err != nil {
		t.Fatal(err)
	}
	first, err := maxmin.Share(room, ways)
	if err != nil {
		t.Fatal(err)
	}
	second, err := maxmin.Share(room, ways)
	if err != nil {
		t.Fatal(err)
	}
	if !slices.Equal(memory, []int{10, 4, 77, 78}) || !slices.Equal(links, []int{0, 0, 1, 1, 79}) {
		t.Errorf("the memory of the arguments is %v and %v", memory, links)
	}
	if len(all[0]) != 1 || len(all[1]) != 2 || len(all[2]) != 1 || !slices.Equal(all[3], []int{80}) {
		t.Errorf("the memory of the flows is %v", all)
	}
	// What is written into the arguments or one result, and behind it, is seen in no other.
	clear(memory)
	clear(links)
	clear(all)
	clear(first[:cap(first)])
	if !slices.Equal(second, []int{8, 2, 2}) {
		t.Errorf("the result has become %v", second)
	}
}

// Z2: a call does not depend on those before it, and all flows may be the same one.
func TestAgain(t *testing.T) {
	way := []int{1, 0}
	for range 3 {
		checkGood(t, []int{10, 20}, [][]int{way, way, way}, []int{3, 3, 3})
		checkError(t, "a link twice", []int{1}, [][]int{{0, 0}}, api.ErrClash)
		checkGood(t, []int{10, 4}, [][]int{{0}, {0, 1}, {1}}, []int{8, 2, 2})
	}
}
