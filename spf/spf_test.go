package spf_test

import (
	"math"
	"slices"
	"testing"

	"ferryhythe/api"
	"ferryhythe/plain"
	"ferryhythe/spf"
	"ferryhythe/vector"
)

// far is the cost of a path that there is not.
const far = 1000

// link is a link between two nodes.
func link(a, b, cost int) api.Link {
	return api.Link{A: a, B: b, Cost: cost}
}

// chain is n nodes in a line, each linked to the next one.
func chain(n, cost int) []api.Link {
	var links []api.Link
	for i := range n - 1 {
		links = append(links, link(i, i+1, cost))
	}
	return links
}

// same is n times one link.
func same(one api.Link, n int) []api.Link {
	return slices.Repeat([]api.Link{one}, n)
}

// checkFrom checks what From returns.
func checkFrom(t *testing.T, n int, links []api.Link, from int, costs, hops []int) {
	t.Helper()
	gotCosts, gotHops, err := spf.From(n, links, from)
	if !slices.Equal(gotCosts, costs) || !slices.Equal(gotHops, hops) || err != nil {
		t.Fatalf("From(%d, %v, %d) is %v, %v, %v; want %v, %v", n, links, from, gotCosts, gotHops, err, costs, hops)
	}
}

// checkWay checks the path that Way returns.
func checkWay(t *testing.T, n int, links []api.Link, from, to int, want []int) {
	t.Helper()
	way, err := spf.Way(n, links, from, to)
	if !slices.Equal(way, want) || err != nil {
		t.Fatalf("Way(%d, %v, %d, %d) is %v, %v; want %v", n, links, from, to, way, err, want)
	}
}

// checkNoFrom checks that From reports what is wrong, and returns nothing.
func checkNoFrom(t *testing.T, name string, n int, links []api.Link, from int, want api.Errno) {
	t.Helper()
	costs, hops, err := spf.From(n, links, from)
	if len(costs) != 0 || len(hops) != 0 || plain.Told(err) != want {
		t.Errorf("%s: From(%d, %v, %d) is %v, %v, %v; want nothing, %v", name, n, links, from, costs, hops, err, want)
	}
}

// checkNoWay checks that Way reports what is wrong, and returns nothing.
func checkNoWay(t *testing.T, name string, n int, links []api.Link, from, to int, want api.Errno) {
	t.Helper()
	way, err := spf.Way(n, links, from, to)
	if len(way) != 0 || plain.Told(err) != want {
		t.Errorf("%s: Way(%d, %v, %d, %d) is %v, %v; want nothing, %v", name, n, links, from, to, way, err, want)
	}
}

// R24.1
func TestFrom(t *testing.T) {
	triangle := []api.Link{link(0, 1, 5), link(0, 2, 1), link(2, 1, 1)}
	square := []api.Link{link(0, 2, 1), link(0, 1, 1), link(2, 3, 1), link(1, 3, 1)}
	split := []api.Link{link(0, 2, 4), link(3, 1, 20)}
	cases := []struct {
		n           int
		links       []api.Link
		from        int
		costs, hops []int
	}{
		// the node itself costs nothing, and no hop leads there
		{1, nil, 0, []int{0}, []int{-1}},
		{1, []api.Link{}, 0, []int{0}, []int{-1}},
		{8, nil, 5, []int{far, far, far, far, far, 0, far, far}, []int{-1, -1, -1, -1, -1, -1, -1, -1}},

		// a link goes both ways, however it is written
		{2, []api.Link{link(0, 1, 3)}, 0, []int{0, 3}, []int{-1, 1}},
		{2, []api.Link{link(0, 1, 3)}, 1, []int{3, 0}, []int{0, -1}},
		{2, []api.Link{link(1, 0, 20)}, 0, []int{0, 20}, []int{-1, 1}},
		{2, []api.Link{link(1, 0, 20)}, 1, []int{20, 0}, []int{0, -1}},

		// what can't be reached is far, and no hop leads there
		{4, split, 0, []int{0, far, 4, far}, []int{-1, -1, 2, -1}},
		{4, split, 1, []int{far, 0, far, 20}, []int{-1, -1, -1, 3}},
		{4, split, 2, []int{4, far, 0, far}, []int{0, -1, -1, -1}},
		{4, split, 3, []int{far, 20, far, 0}, []int{-1, 1, -1, -1}},

		// of parallel links the cheapest one counts, wherever it stands
		{2, []api.Link{link(0, 1, 3), link(0, 1, 5)}, 0, []int{0, 3}, []int{-1, 1}},
		{2, []api.Link{link(0, 1, 5), link(0, 1, 3)}, 1, []int{3, 0}, []int{0, -1}},
		{2, []api.Link{link(0, 1, 5), link(1, 0, 3), link(0, 1, 4)}, 0, []int{0, 3}, []int{-1, 1}},
		{2, same(link(1, 0, 9), 32), 0, []int{0, 9}, []int{-1, 1}},

		// a path over more links may be cheaper
		{3, triangle, 0, []int{0, 2, 1}, []int{-1, 2, 2}},
		{3, triangle, 1, []int{2, 0, 1}, []int{2, -1, 2}},
		{3, triangle, 2, []int{1, 1, 0}, []int{0, 1, -1}},

		// the first hop is the same for all nodes behind it
		{4, chain(4, 20), 0, []int{0, 20, 40, 60}, []int{-1, 1, 1, 1}},
		{4, chain(4, 20), 1, []int{20, 0, 20, 40}, []int{0, -1, 2, 2}},
		{4, chain(4, 20), 3, []int{60, 40, 20, 0}, []int{2, 2, 2, -1}},
		{8, chain(8, 20), 0, []int{0, 20, 40, 60, 80, 100, 120, 140}, []int{-1, 1, 1, 1, 1, 1, 1, 1}},

		// of several shortest paths the one with the smallest first hop counts, in any order of the links
		{4, square, 0, []int{0, 1, 1, 2}, []int{-1, 1, 2, 1}},
		{4, square, 3, []int{2, 1, 1, 0}, []int{1, 1, 2, -1}},
		{4, square, 1, []int{1, 0, 2, 1}, []int{0, -1, 0, 3}},

		// it does not matter how many links the paths have, nor whether one is a link of its own
		{3, []api.Link{link(0, 1, 2), link(0, 2, 1), link(2, 1, 1)}, 0, []int{0, 2, 1}, []int{-1, 1, 2}},
		{3, []api.Link{link(0, 2, 2), link(0, 1, 1), link(1, 2, 1)}, 0, []int{0, 1, 2}, []int{-1, 1, 1}},
		{4, []api.Link{link(0, 3, 3), link(0, 1, 1), link(1, 2, 1), link(2, 3, 1)}, 0, []int{0, 1, 2, 3}, []int{-1, 1, 1, 1}},
		{4, []api.Link{link(0, 1, 3), link(0, 3, 1), link(3, 2, 1), link(2, 1, 1)}, 0, []int{0, 3, 2, 1}, []int{-1, 1, 3, 3}},

		// a smaller hop of a path that costs more does not count
		{4, []api.Link{link(0, 1, 2), link(0, 2, 1), link(2, 3, 1), link(1, 3, 1)}, 0, []int{0, 2, 1, 2}, []int{-1, 1, 2, 2}},

		// the smallest hop is handed on to the nodes behind, even if the nearest node has a greater one
		{5, []api.Link{link(0, 3, 1), link(0, 1, 4), link(3, 2, 4), link(1, 2, 1), link(2, 4, 1)}, 0, []int{0, 4, 5, 1, 6}, []int{-1, 1, 1, 3, 1}},

		// the node in the middle of a star has a hop for each
		{4, []api.Link{link(0, 3, 1), link(3, 1, 20), link(2, 3, 7)}, 3, []int{1, 20, 7, 0}, []int{0, 1, 2, -1}},
		{4, []api.Link{link(0, 3, 1), link(3, 1, 20), link(2, 3, 7)}, 1, []int{21, 0, 27, 20}, []int{3, -1, 3, 3}},
	}
	for _, c := range cases {
		checkFrom(t, c.n, c.links, c.from, c.costs, c.hops)
	}
}

// R24.2
func TestWay(t *testing.T) {
	triangle := []api.Link{link(0, 1, 5), link(0, 2, 1), link(2, 1, 1)}
	square := []api.Link{link(0, 2, 1), link(0, 1, 1), link(2, 3, 1), link(1, 3, 1)}
	// Two squares one behind the other: each node decides anew.
	squares := append(slices.Clone(square), link(3, 6, 2), link(3, 5, 2), link(6, 4, 2), link(5, 4, 2))
	cases := []struct {
		n        int
		links    []api.Link
		from, to int
		way      []int
	}{
		// the example of the document, and back
		{3, triangle, 0, 1, []int{0, 2, 1}},
		{3, triangle, 1, 0, []int{1, 2, 0}},
		{3, triangle, 0, 2, []int{0, 2}},

		// from a node to itself there is a path of one node, even without links
		{1, nil, 0, 0, []int{0}},
		{3, nil, 2, 2, []int{2}},
		{3, triangle, 1, 1, []int{1}},
		{8, chain(8, 20), 7, 7, []int{7}},

		{2, []api.Link{link(0, 1, 3)}, 0, 1, []int{0, 1}},
		{2, []api.Link{link(0, 1, 3)}, 1, 0, []int{1, 0}},
		{8, chain(8, 20), 0, 7, []int{0, 1, 2, 3, 4, 5, 6, 7}},
		{8, chain(8, 20), 7, 0, []int{7, 6, 5, 4, 3, 2, 1, 0}},
		{8, chain(8, 1), 5, 2, []int{5, 4, 3, 2}},

		// the smallest hop, there as well as back
		{4, square, 0, 3, []int{0, 1, 3}},
		{4, square, 3, 0, []int{3, 1, 0}},
		{4, square, 1, 2, []int{1, 0, 2}},
		{4, square, 2, 1, []int{2, 0, 1}},
		{7, squares, 0, 4, []int{0, 1, 3, 5, 4}},
		{7, squares, 4, 0, []int{4, 5, 3, 1, 0}},

		// the first hop decides, and then the second: the way back is not the way there turned round
		{5, []api.Link{link(0, 1, 1), link(1, 3, 1), link(3, 4, 2), link(0, 2, 3), link(2, 4, 1)}, 0, 4, []int{0, 1, 3, 4}},
		{5, []api.Link{link(0, 1, 1), link(1, 3, 1), link(3, 4, 2), link(0, 2, 3), link(2, 4, 1)}, 4, 0, []int{4, 2, 0}},
		{3, []api.Link{link(0, 1, 2), link(0, 2, 1), link(2, 1, 1)}, 0, 1, []int{0, 1}},
		{3, []api.Link{link(0, 2, 2), link(0, 1, 1), link(1, 2, 1)}, 0, 2, []int{0, 1, 2}},
	}
	for _, c := range cases {
		checkWay(t, c.n, c.links, c.from, c.to, c.way)
	}
}

// R24.2: there is no path between nodes that no links join.
func TestNoWay(t *testing.T) {
	split := []api.Link{link(0, 2, 4), link(3, 1, 20)}
	for _, ends := range [][2]int{{0, 1}, {1, 0}, {0, 3}, {3, 0}, {2, 1}, {1, 2}, {2, 3}, {3, 2}} {
		checkNoWay(t, "two parts", 4, split, ends[0], ends[1], api.ErrNone)
	}
	for from := range 8 {
		for to := range 8 {
			if from != to {
				checkNoWay(t, "no links", 8, nil, from, to, api.ErrNone)
			}
		}
	}
	checkNoWay(t, "the last node alone", 8, chain(7, 1), 0, 7, api.ErrNone)
	checkNoWay(t, "from the last node alone", 8, chain(7, 1), 7, 0, api.ErrNone)
}

// R24.1 and R24.2: the errors of vector.Check come first.
func TestCheckErrors(t *testing.T) {
	good := link(0, 1, 3)
	wrong := []struct {
		name  string
		n     int
		links []api.Link
		err   api.Errno
	}{
		{"no nodes", 0, nil, api.ErrRange},
		{"-1 nodes", -1, nil, api.ErrRange},
		{"one node too many", 9, nil, api.ErrRange},
		{"the least number of all", math.MinInt, nil, api.ErrRange},
		{"the greatest number of all", math.MaxInt, nil, api.ErrRange},
		{"one node too many, and too many links", 9, same(good, 33), api.ErrRange},
		{"one node too many, and a link to itself", 9, []api.Link{link(1, 1, 1)}, api.ErrRange},
		{"one link too many", 2, same(good, 33), api.ErrFull},
		{"too many links, all out of range", 2, same(link(-1, 2, 0), 33), api.ErrFull},
		{"too many links, all to themselves", 2, same(link(1, 1, 1), 33), api.ErrFull},
		{"A of -1", 3, []api.Link{link(-1, 1, 3)}, api.ErrRange},
		{"B behind the last node", 3, []api.Link{link(1, 3, 3)}, api.ErrRange},
		{"B behind the last node of all", 8, []api.Link{link(1, 8, 3)}, api.ErrRange},
		{"a cost of 0", 2, []api.Link{link(0, 1, 0)}, api.ErrRange},
		{"a cost one too large", 2, []api.Link{link(0, 1, 21)}, api.ErrRange},
		{"the last link out of range", 2, append(same(good, 31), link(0, 2, 3)), api.ErrRange},
		{"a link to itself without a cost", 3, []api.Link{link(1, 1, 0)}, api.ErrRange},
		{"a link out of range in front of one to itself", 3, []api.Link{link(0, 3, 1), link(1, 1, 1)}, api.ErrRange},
		{"a link to itself", 2, []api.Link{link(0, 0, 1)}, api.ErrShape},
		{"a link of the only node to itself", 1, []api.Link{link(0, 0, 1)}, api.ErrShape},
		{"a link to itself in front of one out of range", 3, []api.Link{link(1, 1, 1), link(0, 3, 1)}, api.ErrShape},
		{"the last link to itself", 2, append(same(good, 31), link(1, 1, 3)), api.ErrShape},
	}
	nodes := []int{0, 1, -1, 2, 8, 9, math.MinInt, math.MaxInt}
	for _, c := range wrong {
		for _, from := range nodes {
			checkNoFrom(t, c.name, c.n, c.links, from, c.err)
			for _, to := range nodes {
				checkNoWay(t, c.name, c.n, c.links, from, to, c.err)
			}
		}
	}
}

// R24.1 and R24.2: what is not a node comes next, whether there is a path or not.
func TestNodeErrors(t *testing.T) {
	for n := 1; n <= 8; n++ {
		for _, links := range [][]api.Link{nil, chain(n, 3)} {
			for _, no := range []int{-1, -2, n, n + 1, 9, 1000, 1 << 32, math.MinInt, math.MaxInt} {
				checkNoFrom(t, "from no node", n, links, no, api.ErrRange)
				checkNoWay(t, "from no node to itself", n, links, no, no, api.ErrRange)
				for node := range n {
					checkNoWay(t, "from no node", n, links, no, node, api.ErrRange)
					checkNoWay(t, "to no node", n, links, node, no, api.ErrRange)
				}
			}
		}
	}
}

// model knows the shortest paths of a network, from all paths that come to no node twice. Of those with the same cost it knows the first one in the order of their nodes: the path along smallest hops.
type model struct {
	n     int
	costs [8][8]int
	least [8][8]int
	ways  [8][8][]int
}

// newModel walks all paths between the nodes of a network.
func newModel(n int, links []api.Link) *model {
	m := &model{n: n}
	for _, l := range links {
		if old := m.costs[l.A][l.B]; old == 0 || l.Cost < old {
			m.costs[l.A][l.B], m.costs[l.B][l.A] = l.Cost, l.Cost
		}
	}
	for from := range n {
		m.walk([]int{from}, 0)
	}
	return m
}

// walk goes on along all links from the end of a path, to smaller nodes first.
func (m *model) walk(way []int, cost int) {
	from, node := way[0], way[len(way)-1]
	if m.ways[from][node] == nil || cost < m.least[from][node] {
		m.least[from][node], m.ways[from][node] = cost, slices.Clone(way)
	}
	for next, more := range m.costs[node] {
		if more > 0 && !slices.Contains(way, next) {
			m.walk(append(way, next), cost+more)
		}
	}
}

// from has the costs and the first hops from a node.
func (m *model) from(from int) (costs, hops []int) {
	for to := range m.n {
		switch way := m.ways[from][to]; len(way) {
		case 0:
			costs, hops = append(costs, far), append(hops, -1)
		case 1:
			costs, hops = append(costs, 0), append(hops, -1)
		default:
			costs, hops = append(costs, m.least[from][to]), append(hops, way[1])
		}
	}
	return costs, hops
}

// checkModel compares a network with the model, from each node to each.
func checkModel(t *testing.T, n int, links []api.Link) {
	t.Helper()
	m := newModel(n, links)
	for from := range n {
		costs, hops := m.from(from)
		checkFrom(t, n, links, from, costs, hops)
		for to := range n {
			if way := m.ways[from][to]; way != nil {
				checkWay(t, n, links, from, to, way)
			} else {
				checkNoWay(t, "two parts", n, links, from, to, api.ErrNone)
			}
		}
	}
}

// R24.1 and R24.2: up to three links of small costs between three nodes, in any order and any way round.
func TestSmall(t *testing.T) {
	var all []api.Link
	for a := range 3 {
		for b := range 3 {
			for _, cost := range []int{1, 2, 4} {
				if a != b {
					all = append(all, link(a, b, cost))
				}
			}
		}
	}
	checkModel(t, 3, nil)
	for _, x := range all {
		checkModel(t, 3, []api.Link{x})
		for _, y := range all {
			checkModel(t, 3, []api.Link{x, y})
			for _, z := range all {
				checkModel(t, 3, []api.Link{x, y, z})
			}
		}
	}
}

// R24.1 and R24.2: all networks of four nodes with each two of them linked at some cost or not at all.
func TestFour(t *testing.T) {
	pairs := [][2]int{{0, 1}, {0, 2}, {0, 3}, {1, 2}, {1, 3}, {2, 3}}
	costs := []int{0, 1, 2, 3}
	for number := range 1 << 12 {
		var links []api.Link
		rest := number
		for _, pair := range pairs {
			if cost := costs[rest%4]; cost > 0 {
				links = append(links, link(pair[0], pair[1], cost))
			}
			rest /= 4
		}
		checkModel(t, 4, links)
	}
}

// some returns a network of any size, another for each seed.
func some(seed uint32) (n int, links []api.Link) {
	next := func(limit int) int {
		seed = seed*1_664_525 + 1_013_904_223
		return int(seed>>8) % limit
	}
	n = 2 + next(7)
	count := next(2 * n)
	if next(20) == 0 {
		count = next(33)
	}
	// Small costs make many paths that cost the same.
	greatest := 1 + next(4)
	if next(4) == 0 {
		greatest = 20
	}
	for range count {
		a := next(n)
		b := (a + 1 + next(n-1)) % n
		links = append(links, link(a, b, 1+next(greatest)))
	}
	return n, links
}

// R24.1 and R24.2: networks of all sizes.
func TestMany(t *testing.T) {
	for seed := range uint32(3000) {
		n, links := some(seed)
		checkModel(t, n, links)
	}
}

// R24.1 and R24.2: every pair of the most nodes linked, and as many links as may be.
func TestMost(t *testing.T) {
	for _, greatest := range []int{1, 2, 3, 20} {
		var links []api.Link
		for b := range 8 {
			for a := range b {
				links = append(links, link(a, b, 1+(a*a*7+b*5)%greatest))
			}
		}
		checkModel(t, 8, links)
		links = append(links, chain(5, 1)...)
		checkModel(t, 8, links)
		if len(links) != 32 {
			t.Errorf("these are %d links; want 32", len(links))
		}
	}
}

// R24.1: the costs are those on which distance vector routing settles.
func TestLikeVector(t *testing.T) {
	for seed := range uint32(1000) {
		n, links := some(seed)
		table, err := vector.Rounds(n, links, 20)
		if err != nil {
			t.Fatal(err)
		}
		for from, row := range table {
			costs, _, err := spf.From(n, links, from)
			if !slices.Equal(costs, row) || err != nil {
				t.Fatalf("From(%d, %v, %d) is %v, %v; want %v", n, links, from, costs, err, row)
			}
		}
	}
}

// Z2: arguments and their spare capacity stay as they are, and results have memory of their own.
func TestMemory(t *testing.T) {
	original := []api.Link{link(0, 1, 3), link(2, 1, 4), link(5, 5, 5), link(6, 6, 6)}
	memory := slices.Clone(original)
	links := memory[:2]
	costs, hops, err := spf.From(3, links, 0)
	if err != nil {
		t.Fatal(err)
	}
	moreCosts, moreHops, err := spf.From(3, links, 0)
	if err != nil {
		t.Fatal(err)
	}
	way, err := spf.Way(3, links, 0, 2)
	if err != nil {
		t.Fatal(err)
	}
	moreWay, err := spf.Way(3, links, 0, 2)
	if err != nil {
		t.Fatal(err)
	}
	if !slices.Equal(memory, original) {
		t.Errorf("the memory of the links is %v", memory)
	}
	clear(memory)
	// What is written into one result, and behind it, is seen in no other one.
	results := [][]int{costs, hops, way, moreCosts, moreHops, moreWay}
	want := [][]int{{0, 3, 7}, {-1, 1, 1}, {0, 1, 2}, {0, 3, 7}, {-1, 1, 1}, {0, 1, 2}}
	for i, result := range results {
		if !slices.Equal(result, want[i]) {
			t.Errorf("result %d has become %v", i, result)
		}
		result = result[:cap(result)]
		for at := range result {
			result[at] = -7
		}
	}
}

// Z2: a call does not depend on those before it.
func TestAgain(t *testing.T) {
	for range 3 {
		checkFrom(t, 3, chain(3, 2), 0, []int{0, 2, 4}, []int{-1, 1, 1})
		checkNoFrom(t, "a link to itself", 3, []api.Link{link(1, 1, 1)}, 0, api.ErrShape)
		checkWay(t, 3, chain(3, 2), 2, 0, []int{2, 1, 0})
		checkNoWay(t, "no links", 3, nil, 2, 0, api.ErrNone)
		checkFrom(t, 2, nil, 1, []int{far, 0}, []int{-1, -1})
	}
}
