package vector_test

import (
	"math"
	"slices"
	"testing"

	"ferryhythe/api"
	"ferryhythe/plain"
	"ferryhythe/vector"
)

// far is the distance of a node that has not been heard of.
const far = 1000

// link is a link between two nodes.
func link(a, b, cost int) api.Link {
	return api.Link{A: a, B: b, Cost: cost}
}

// chain is n nodes in a line, each linked to the next one.
func chain(n, cost int) []api.Link {
	var links []api.Link
	for i := range n - 1 {
		links = append(links, link(i, i+1, cost))
	}
	return links
}

// same is n times one link.
func same(one api.Link, n int) []api.Link {
	return slices.Repeat([]api.Link{one}, n)
}

// sameTable tells whether two tables of distances are the same.
func sameTable(a, b [][]int) bool {
	return slices.EqualFunc(a, b, slices.Equal)
}

// checkTable checks what Rounds returns, and that Check reports nothing.
func checkTable(t *testing.T, n int, links []api.Link, rounds int, want [][]int) {
	t.Helper()
	if err := vector.Check(n, links); err != nil {
		t.Fatalf("Check(%d, %v) is %v; want nil", n, links, err)
	}
	table, err := vector.Rounds(n, links, rounds)
	if !sameTable(table, want) || err != nil {
		t.Fatalf("Rounds(%d, %v, %d) is %v, %v; want %v", n, links, rounds, table, err, want)
	}
}

// checkSettle checks what Settle returns.
func checkSettle(t *testing.T, n int, links []api.Link, want int) {
	t.Helper()
	rounds, err := vector.Settle(n, links)
	if rounds != want || err != nil {
		t.Fatalf("Settle(%d, %v) is %d, %v; want %d", n, links, rounds, err, want)
	}
}

// R23.2
func TestRounds(t *testing.T) {
	triangle := []api.Link{link(0, 1, 10), link(2, 0, 1), link(1, 2, 2)}
	split := []api.Link{link(0, 2, 4), link(3, 1, 20)}
	cases := []struct {
		n      int
		links  []api.Link
		rounds int
		table  [][]int
	}{
		// one node knows itself, and there is nothing else to know
		{1, nil, 0, [][]int{{0}}},
		{1, nil, 1, [][]int{{0}}},
		{1, []api.Link{}, 20, [][]int{{0}}},

		// before the first round nobody knows anybody else
		{2, []api.Link{link(0, 1, 3)}, 0, [][]int{{0, far}, {far, 0}}},
		{3, triangle, 0, [][]int{{0, far, far}, {far, 0, far}, {far, far, 0}}},

		// a link goes both ways
		{2, []api.Link{link(0, 1, 3)}, 1, [][]int{{0, 3}, {3, 0}}},
		{2, []api.Link{link(1, 0, 3)}, 1, [][]int{{0, 3}, {3, 0}}},
		{2, []api.Link{link(1, 0, 20)}, 20, [][]int{{0, 20}, {20, 0}}},

		// without links everything stays far
		{2, nil, 5, [][]int{{0, far}, {far, 0}}},
		{3, nil, 20, [][]int{{0, far, far}, {far, 0, far}, {far, far, 0}}},

		// what can't be reached is never farther than Far, even if a neighbor is asked
		{3, []api.Link{link(0, 1, 7)}, 1, [][]int{{0, 7, far}, {7, 0, far}, {far, far, 0}}},
		{3, []api.Link{link(2, 1, 7)}, 20, [][]int{{0, far, far}, {far, 0, 7}, {far, 7, 0}}},
		{4, split, 1, [][]int{{0, far, 4, far}, {far, 0, far, 20}, {4, far, 0, far}, {far, 20, far, 0}}},
		{4, split, 20, [][]int{{0, far, 4, far}, {far, 0, far, 20}, {4, far, 0, far}, {far, 20, far, 0}}},

		// of parallel links the cheapest one counts, wherever it stands and whichever way it is written
		{2, []api.Link{link(0, 1, 3), link(0, 1, 5)}, 1, [][]int{{0, 3}, {3, 0}}},
		{2, []api.Link{link(0, 1, 5), link(0, 1, 3)}, 1, [][]int{{0, 3}, {3, 0}}},
		{2, []api.Link{link(0, 1, 5), link(1, 0, 3), link(0, 1, 4)}, 1, [][]int{{0, 3}, {3, 0}}},
		{2, same(link(0, 1, 9), 32), 2, [][]int{{0, 9}, {9, 0}}},

		// a neighbor tells what it knew before the round: news pass one link in each, in any order of the links
		{3, chain(3, 2), 1, [][]int{{0, 2, far}, {2, 0, 2}, {far, 2, 0}}},
		{3, []api.Link{link(2, 1, 2), link(1, 0, 2)}, 1, [][]int{{0, 2, far}, {2, 0, 2}, {far, 2, 0}}},
		{3, chain(3, 2), 2, [][]int{{0, 2, 4}, {2, 0, 2}, {4, 2, 0}}},
		{4, chain(4, 5), 1, [][]int{{0, 5, far, far}, {5, 0, 5, far}, {far, 5, 0, 5}, {far, far, 5, 0}}},
		{4, chain(4, 5), 2, [][]int{{0, 5, 10, far}, {5, 0, 5, 10}, {10, 5, 0, 5}, {far, 10, 5, 0}}},
		{4, chain(4, 5), 3, [][]int{{0, 5, 10, 15}, {5, 0, 5, 10}, {10, 5, 0, 5}, {15, 10, 5, 0}}},
		{4, chain(4, 5), 20, [][]int{{0, 5, 10, 15}, {5, 0, 5, 10}, {10, 5, 0, 5}, {15, 10, 5, 0}}},

		// a cheaper way over more links is known later
		{3, triangle, 1, [][]int{{0, 10, 1}, {10, 0, 2}, {1, 2, 0}}},
		{3, triangle, 2, [][]int{{0, 3, 1}, {3, 0, 2}, {1, 2, 0}}},
		{3, triangle, 20, [][]int{{0, 3, 1}, {3, 0, 2}, {1, 2, 0}}},

		// of two ways of the same cost either will do
		{3, []api.Link{link(0, 1, 3), link(0, 2, 1), link(2, 1, 2)}, 2, [][]int{{0, 3, 1}, {3, 0, 2}, {1, 2, 0}}},
	}
	for _, c := range cases {
		checkTable(t, c.n, c.links, c.rounds, c.table)
	}
}

// R23.2: in the longest line of all, each round brings what is one link farther.
func TestChain(t *testing.T) {
	for rounds := range 21 {
		want := make([][]int, 8)
		for from := range want {
			want[from] = make([]int, 8)
			for to := range want[from] {
				steps := max(from-to, to-from)
				want[from][to] = steps * 20
				if steps > rounds {
					want[from][to] = far
				}
			}
		}
		checkTable(t, 8, chain(8, 20), rounds, want)
	}
}

// R23.3
func TestSettle(t *testing.T) {
	cases := []struct {
		n      int
		links  []api.Link
		rounds int
	}{
		// nothing ever changes
		{1, nil, 0},
		{2, nil, 0},
		{8, []api.Link{}, 0},

		// all are neighbors
		{2, []api.Link{link(0, 1, 3)}, 1},
		{2, []api.Link{link(1, 0, 20), link(0, 1, 1)}, 1},
		{3, []api.Link{link(0, 1, 1), link(1, 2, 1), link(2, 0, 1)}, 1},
		{3, []api.Link{link(0, 1, 2), link(1, 2, 1), link(2, 0, 1)}, 1},
		{8, []api.Link{link(6, 7, 20)}, 1},

		// lines
		{3, chain(3, 1), 2},
		{4, chain(4, 20), 3},
		{8, chain(5, 2), 4},
		{8, chain(8, 1), 7},
		{8, chain(8, 20), 7},

		// a star, and a ring
		{4, []api.Link{link(0, 3, 1), link(3, 1, 20), link(2, 3, 7)}, 2},
		{6, append(chain(6, 1), link(5, 0, 1)), 3},
		{7, append(chain(7, 1), link(6, 0, 1)), 3},
		{7, append(chain(7, 3), link(6, 0, 20)), 6},

		// a cheaper way over more links takes longer, one of the same cost does not
		{3, []api.Link{link(0, 1, 10), link(2, 0, 1), link(1, 2, 2)}, 2},
		{8, append(chain(8, 2), link(0, 7, 15)), 7},
		{8, append(chain(8, 2), link(0, 7, 14)), 6},

		// the part that takes longest decides
		{7, []api.Link{link(0, 1, 1), link(2, 3, 1), link(3, 4, 1), link(5, 6, 1)}, 2},
	}
	for _, c := range cases {
		checkSettle(t, c.n, c.links, c.rounds)
	}
}

// R23.1, R23.2 and R23.3: the errors, in their order.
func TestErrors(t *testing.T) {
	good := link(0, 1, 3)
	wrong := []struct {
		name  string
		n     int
		links []api.Link
		err   api.Errno
	}{
		{"no nodes", 0, nil, api.ErrRange},
		{"-1 nodes", -1, nil, api.ErrRange},
		{"one node too many", 9, nil, api.ErrRange},
		{"the least number of all", math.MinInt, nil, api.ErrRange},
		{"the greatest number of all", math.MaxInt, nil, api.ErrRange},
		{"a number in its lowest bits", 1<<32 + 3, nil, api.ErrRange},
		{"no nodes, and too many links", 0, same(good, 33), api.ErrRange},
		{"one node too many, and too many links", 9, same(good, 33), api.ErrRange},
		{"one node too many, and a link to itself", 9, []api.Link{link(1, 1, 1)}, api.ErrRange},

		{"one link too many", 2, same(good, 33), api.ErrFull},
		{"many links too many", 8, same(good, 1000), api.ErrFull},
		{"one link too many for one node", 1, same(good, 33), api.ErrFull},
		{"too many links, all out of range", 2, same(link(-1, 2, 0), 33), api.ErrFull},
		{"too many links, all to themselves", 2, same(link(1, 1, 1), 33), api.ErrFull},

		{"A of -1", 3, []api.Link{link(-1, 1, 3)}, api.ErrRange},
		{"B of -1", 3, []api.Link{link(1, -1, 3)}, api.ErrRange},
		{"A behind the last node", 3, []api.Link{link(3, 1, 3)}, api.ErrRange},
		{"B behind the last node", 3, []api.Link{link(1, 3, 3)}, api.ErrRange},
		{"A behind the last node of all", 8, []api.Link{link(8, 1, 3)}, api.ErrRange},
		{"B behind the last node of all", 8, []api.Link{link(1, 8, 3)}, api.ErrRange},
		{"A the least of all", 8, []api.Link{link(math.MinInt, 1, 3)}, api.ErrRange},
		{"A the greatest of all", 8, []api.Link{link(math.MaxInt, 1, 3)}, api.ErrRange},
		{"B the least of all", 8, []api.Link{link(1, math.MinInt, 3)}, api.ErrRange},
		{"B the greatest of all", 8, []api.Link{link(1, math.MaxInt, 3)}, api.ErrRange},
		{"A in its lowest bits", 8, []api.Link{link(1<<32, 1, 3)}, api.ErrRange},
		{"B in its lowest bits", 8, []api.Link{link(1, 1<<32, 3)}, api.ErrRange},
		{"a cost of 0", 2, []api.Link{link(0, 1, 0)}, api.ErrRange},
		{"a cost of -1", 2, []api.Link{link(0, 1, -1)}, api.ErrRange},
		{"a cost one too large", 2, []api.Link{link(0, 1, 21)}, api.ErrRange},
		{"the least cost of all", 2, []api.Link{link(0, 1, math.MinInt)}, api.ErrRange},
		{"the greatest cost of all", 2, []api.Link{link(0, 1, math.MaxInt)}, api.ErrRange},
		{"a cost in its lowest bits", 2, []api.Link{link(0, 1, 1<<32+3)}, api.ErrRange},
		{"a link for one node", 1, []api.Link{good}, api.ErrRange},
		{"the last link out of range", 2, append(same(good, 31), link(0, 2, 3)), api.ErrRange},
		{"the last cost out of range", 2, append(same(good, 31), link(1, 0, 21)), api.ErrRange},
		{"a link to itself that is no node", 3, []api.Link{link(3, 3, 3)}, api.ErrRange},
		{"a link to itself that is no node, in front of the first", 3, []api.Link{link(-1, -1, 3)}, api.ErrRange},
		{"a link to itself without a cost", 3, []api.Link{link(1, 1, 0)}, api.ErrRange},
		{"a link to itself with too great a cost", 3, []api.Link{link(1, 1, 21)}, api.ErrRange},
		{"a link out of range in front of one to itself", 3, []api.Link{link(0, 3, 1), link(1, 1, 1)}, api.ErrRange},
		{"a cost out of range in front of a link to itself", 3, []api.Link{link(0, 1, 0), link(1, 1, 1)}, api.ErrRange},

		{"a link to itself", 2, []api.Link{link(0, 0, 1)}, api.ErrShape},
		{"a link of the only node to itself", 1, []api.Link{link(0, 0, 1)}, api.ErrShape},
		{"a link of the last node to itself", 8, []api.Link{link(7, 7, 20)}, api.ErrShape},
		{"the last link to itself", 2, append(same(good, 31), link(1, 1, 3)), api.ErrShape},
		{"a link to itself in front of one out of range", 3, []api.Link{link(1, 1, 1), link(0, 3, 1)}, api.ErrShape},
		{"a link to itself in front of a cost out of range", 3, []api.Link{link(1, 1, 1), link(0, 1, 0)}, api.ErrShape},
	}
	for _, c := range wrong {
		if err := vector.Check(c.n, c.links); plain.Told(err) != c.err {
			t.Errorf("%s: Check is %v; want %v", c.name, err, c.err)
		}
		rounds, err := vector.Settle(c.n, c.links)
		if rounds != 0 || plain.Told(err) != c.err {
			t.Errorf("%s: Settle is %d, %v; want 0, %v", c.name, rounds, err, c.err)
		}
		// A number of rounds out of range comes behind all that.
		for _, times := range []int{0, 1, 20, 21, -1, math.MinInt, math.MaxInt} {
			checkNoTable(t, c.name, c.n, c.links, times, c.err)
		}
	}
}

// checkNoTable checks that Rounds reports what is wrong, and returns nothing.
func checkNoTable(t *testing.T, name string, n int, links []api.Link, rounds int, want api.Errno) {
	t.Helper()
	table, err := vector.Rounds(n, links, rounds)
	if len(table) != 0 || plain.Told(err) != want {
		t.Errorf("%s: Rounds for %d rounds is %v, %v; want nothing, %v", name, rounds, table, err, want)
	}
}

// R23.2: a number of rounds that is none that may be, though the network is good.
func TestRoundsRange(t *testing.T) {
	for _, rounds := range []int{-1, -2, 21, 22, 1000, 1 << 32, 1<<32 + 3, math.MinInt, math.MaxInt} {
		checkNoTable(t, "no links", 1, nil, rounds, api.ErrRange)
		checkNoTable(t, "two nodes", 2, chain(2, 3), rounds, api.ErrRange)
		checkNoTable(t, "the longest line", 8, chain(8, 20), rounds, api.ErrRange)
	}
}

// R23.1: all numbers of nodes, links and costs, and all nodes of a link, about the bounds.
func TestBounds(t *testing.T) {
	for n := -2; n < 12; n++ {
		for _, count := range []int{0, 1, 2, 31, 32, 33, 34} {
			want := api.OK
			switch {
			case n < 1 || n > 8:
				want = api.ErrRange
			case count > 32:
				want = api.ErrFull
			case n == 1 && count > 0:
				want = api.ErrRange
			}
			links := same(link(0, 1, 1), count)
			if err := vector.Check(n, links); plain.Told(err) != want {
				t.Errorf("Check of %d nodes and %d links is %v; want %v", n, count, err, want)
			}
		}
	}
	for n := 1; n <= 8; n++ {
		for a := -2; a < 11; a++ {
			for b := -2; b < 11; b++ {
				for cost := -2; cost < 24; cost++ {
					checkOne(t, n, link(a, b, cost))
				}
			}
		}
	}
}

// checkOne checks what is wrong with a network of one link.
func checkOne(t *testing.T, n int, one api.Link) {
	t.Helper()
	var nodes []int
	for node := range n {
		nodes = append(nodes, node)
	}
	want := api.OK
	switch {
	case !slices.Contains(nodes, one.A), !slices.Contains(nodes, one.B), one.Cost < 1, one.Cost > 20:
		want = api.ErrRange
	case one.A == one.B:
		want = api.ErrShape
	}
	if err := vector.Check(n, []api.Link{one}); plain.Told(err) != want {
		t.Errorf("Check(%d, %v) is %v; want %v", n, one, err, want)
	}
	rounds, err := vector.Settle(n, []api.Link{one})
	settled := 0
	if want == api.OK {
		settled = 1
	}
	if rounds != settled || plain.Told(err) != want {
		t.Errorf("Settle(%d, %v) is %d, %v; want %d, %v", n, one, rounds, err, settled, want)
	}
}

// model knows the costs of the cheapest ways with each number of links, from all ways that come to no node twice.
type model struct {
	// costs has the cost of the cheapest link between two nodes, 0 without one.
	costs [8][8]int
	// ways has the cost of the cheapest way from one node to another with so many links, 0 without one.
	ways [8][8][8]int
}

// newModel walks all ways between the nodes of a network.
func newModel(n int, links []api.Link) *model {
	m := new(model)
	for _, l := range links {
		if old := m.costs[l.A][l.B]; old == 0 || l.Cost < old {
			m.costs[l.A][l.B], m.costs[l.B][l.A] = l.Cost, l.Cost
		}
	}
	for from := range n {
		var visited [8]bool
		m.walk(from, from, 0, 0, visited)
	}
	return m
}

// walk goes on from a node, to which it came from another with so many links at this cost.
func (m *model) walk(from, node, steps, cost int, visited [8]bool) {
	visited[node] = true
	if old := m.ways[from][node][steps]; old == 0 || cost < old {
		m.ways[from][node][steps] = cost
	}
	for next, more := range m.costs[node] {
		if more > 0 && !visited[next] {
			m.walk(from, next, steps+1, cost+more, visited)
		}
	}
}

// distance is the cost of the cheapest way with no more than so many links.
func (m *model) distance(from, to, limit int) int {
	if from == to {
		return 0
	}
	least := far
	for steps, cost := range m.ways[from][to] {
		if steps <= limit && cost > 0 {
			least = min(least, cost)
		}
	}
	return least
}

// table has the distances after so many rounds.
func (m *model) table(n, rounds int) [][]int {
	table := make([][]int, n)
	for from := range table {
		for to := range n {
			table[from] = append(table[from], m.distance(from, to, rounds))
		}
	}
	return table
}

// settled is the least number of links with which every node has its cheapest way to every other.
func (m *model) settled(n int) int {
	most := 0
	for from := range n {
		for to := range n {
			steps := 0
			for m.distance(from, to, steps) != m.distance(from, to, 7) {
				steps++
			}
			most = max(most, steps)
		}
	}
	return most
}

// checkModel compares a network with the model, after each number of rounds.
func checkModel(t *testing.T, n int, links []api.Link) {
	t.Helper()
	m := newModel(n, links)
	for rounds := range 21 {
		checkTable(t, n, links, rounds, m.table(n, rounds))
	}
	checkSettle(t, n, links, m.settled(n))
}

// R23.2 and R23.3: up to three links of small costs between three nodes, in any order and any way round.
func TestSmall(t *testing.T) {
	var all []api.Link
	for a := range 3 {
		for b := range 3 {
			for _, cost := range []int{1, 2, 4} {
				if a != b {
					all = append(all, link(a, b, cost))
				}
			}
		}
	}
	checkModel(t, 3, nil)
	for _, x := range all {
		checkModel(t, 3, []api.Link{x})
		for _, y := range all {
			checkModel(t, 3, []api.Link{x, y})
			for _, z := range all {
				checkModel(t, 3, []api.Link{x, y, z})
			}
		}
	}
}

// R23.2 and R23.3: all networks of four nodes with each two of them linked at some cost or not at all.
func TestFour(t *testing.T) {
	pairs := [][2]int{{0, 1}, {0, 2}, {0, 3}, {1, 2}, {1, 3}, {2, 3}}
	costs := []int{0, 1, 2, 7}
	for number := range 1 << 12 {
		var links []api.Link
		rest := number
		for _, pair := range pairs {
			if cost := costs[rest%4]; cost > 0 {
				links = append(links, link(pair[0], pair[1], cost))
			}
			rest /= 4
		}
		checkModel(t, 4, links)
	}
}

// some returns a network of any size, another for each seed.
func some(seed uint32) (n int, links []api.Link) {
	next := func(limit int) int {
		seed = seed*1_664_525 + 1_013_904_223
		return int(seed>>8) % limit
	}
	n = 2 + next(7)
	count := next(2 * n)
	if next(20) == 0 {
		count = next(33)
	}
	greatest := 1 + next(20)
	for range count {
		a := next(n)
		b := (a + 1 + next(n-1)) % n
		links = append(links, link(a, b, 1+next(greatest)))
	}
	return n, links
}

// R23.2 and R23.3: networks of all sizes.
func TestMany(t *testing.T) {
	for seed := range uint32(3000) {
		n, links := some(seed)
		checkModel(t, n, links)
	}
}

// R23.2: every pair of the most nodes linked, and as many links as may be.
func TestMost(t *testing.T) {
	var links []api.Link
	for b := range 8 {
		for a := range b {
			links = append(links, link(a, b, 1+(a*a*7+b*5)%20))
		}
	}
	checkModel(t, 8, links)
	links = append(links, chain(5, 1)...)
	checkModel(t, 8, links)
	if len(links) != 32 {
		t.Errorf("these are %d links; want 32", len(links))
	}
}

// R23.3: after the rounds that Settle tells, another one changes nothing; after fewer it does.
func TestSettleRounds(t *testing.T) {
	for seed := range uint32(3000) {
		n, links := some(seed)
		settled, err := vector.Settle(n, links)
		if err != nil {
			t.Fatal(err)
		}
		for rounds := range 20 {
			before, err := vector.Rounds(n, links, rounds)
			if err != nil {
				t.Fatal(err)
			}
			after, err := vector.Rounds(n, links, rounds+1)
			if err != nil {
				t.Fatal(err)
			}
			if sameTable(before, after) != (rounds >= settled) {
				t.Fatalf("Settle(%d, %v) is %d, but round %d gives %v behind %v", n, links, settled, rounds, after, before)
			}
		}
	}
}

// Z2: arguments and their spare capacity stay as they are, and results and their rows have memory of their own.
func TestMemory(t *testing.T) {
	original := []api.Link{link(0, 1, 3), link(2, 1, 4), link(5, 5, 5), link(6, 6, 6)}
	memory := slices.Clone(original)
	links := memory[:2]
	if err := vector.Check(3, links); err != nil {
		t.Fatal(err)
	}
	checkSettle(t, 3, links, 2)
	first, err := vector.Rounds(3, links, 2)
	if err != nil {
		t.Fatal(err)
	}
	second, err := vector.Rounds(3, links, 2)
	if err != nil {
		t.Fatal(err)
	}
	if !slices.Equal(memory, original) {
		t.Errorf("the memory of the links is %v", memory)
	}
	clear(memory)
	// What is written into one row, and behind it, is seen in no other row and in no other result.
	want := [][]int{{0, 3, 7}, {3, 0, 4}, {7, 4, 0}}
	for i, row := range first {
		if !slices.Equal(row, want[i]) {
			t.Errorf("row %d has become %v", i, row)
		}
		row = row[:cap(row)]
		for to := range row {
			row[to] = -1
		}
	}
	clear(first[:cap(first)])
	if !sameTable(second, want) {
		t.Errorf("the result has become %v", second)
	}
}

// Z2: the rows before the first round have memory of their own, too.
func TestMemoryOfNoRounds(t *testing.T) {
	table, err := vector.Rounds(4, nil, 0)
	if err != nil {
		t.Fatal(err)
	}
	for i, row := range table {
		for to, distance := range row {
			if (distance == 0) != (to == i) {
				t.Errorf("row %d has become %v", i, row)
			}
		}
		row = row[:cap(row)]
		for to := range row {
			row[to] = -1
		}
	}
	checkTable(t, 2, nil, 0, [][]int{{0, far}, {far, 0}})
}

// Z2: a call does not depend on those before it.
func TestAgain(t *testing.T) {
	for range 3 {
		checkTable(t, 3, chain(3, 2), 1, [][]int{{0, 2, far}, {2, 0, 2}, {far, 2, 0}})
		checkNoTable(t, "a link to itself", 3, []api.Link{link(1, 1, 1)}, 1, api.ErrShape)
		checkSettle(t, 3, chain(3, 2), 2)
		checkTable(t, 2, nil, 1, [][]int{{0, far}, {far, 0}})
	}
}
