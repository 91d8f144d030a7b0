package rpf_test

import (
	"math"
	"slices"
	"testing"

	"ferryhythe/api"
	"ferryhythe/plain"
	"ferryhythe/rpf"
)

// link is a link between two nodes.
func link(a, b, cost int) api.Link {
	return api.Link{A: a, B: b, Cost: cost}
}

// chain is n nodes in a line, each linked to the next one.
func chain(n, cost int) []api.Link {
	var links []api.Link
	for i := range n - 1 {
		links = append(links, link(i, i+1, cost))
	}
	return links
}

// star is n nodes, one of them linked to all others.
func star(n, middle, cost int) []api.Link {
	var links []api.Link
	for i := range n {
		if i != middle {
			links = append(links, link(i, middle, cost))
		}
	}
	return links
}

// complete is n nodes, each two of them linked.
func complete(n, cost int) []api.Link {
	var links []api.Link
	for b := range n {
		for a := range b {
			links = append(links, link(b, a, cost))
		}
	}
	return links
}

// same is n times one link.
func same(one api.Link, n int) []api.Link {
	return slices.Repeat([]api.Link{one}, n)
}

// square has two paths of the same cost between nodes that face each other.
func square() []api.Link {
	return []api.Link{link(0, 1, 1), link(0, 2, 1), link(1, 3, 1), link(2, 3, 1)}
}

// hexagon has two paths of the same cost from 0 to 5: seen from 0 the one over 1 has the smaller first hop, seen from 5 the one over 2.
func hexagon() []api.Link {
	return []api.Link{link(0, 1, 1), link(1, 4, 1), link(4, 5, 1), link(0, 2, 1), link(2, 3, 1), link(3, 5, 1)}
}

// dear is a triangle in which the path from 0 to 1 is cheaper over 2.
func dear() []api.Link {
	return []api.Link{link(0, 1, 5), link(0, 2, 1), link(2, 1, 1)}
}

// checkFlood checks what Flood returns.
func checkFlood(t *testing.T, n int, links []api.Link, from int, copies []int, sent int) {
	t.Helper()
	gotCopies, gotSent, err := rpf.Flood(n, links, from)
	if !slices.Equal(gotCopies, copies) || gotSent != sent || err != nil {
		t.Fatalf("Flood(%d, %v, %d) is %v, %d, %v; want %v, %d", n, links, from, gotCopies, gotSent, err, copies, sent)
	}
}

// checkNoFlood checks that Flood returns an error and nothing else.
func checkNoFlood(t *testing.T, name string, n int, links []api.Link, from int, want api.Errno) {
	t.Helper()
	copies, sent, err := rpf.Flood(n, links, from)
	if len(copies) != 0 || sent != 0 || plain.Told(err) != want {
		t.Errorf("%s: Flood is %v, %d, %v; want nothing, %v", name, copies, sent, err, want)
	}
}

// checkKids checks what Kids returns.
func checkKids(t *testing.T, n int, links []api.Link, from, at int, want ...int) {
	t.Helper()
	kids, err := rpf.Kids(n, links, from, at)
	if !slices.Equal(kids, want) || err != nil {
		t.Fatalf("Kids(%d, %v, %d, %d) is %v, %v; want %v", n, links, from, at, kids, err, want)
	}
}

// checkNoKids checks that Kids returns an error and nothing else.
func checkNoKids(t *testing.T, name string, n int, links []api.Link, from, at int, want api.Errno) {
	t.Helper()
	kids, err := rpf.Kids(n, links, from, at)
	if len(kids) != 0 || plain.Told(err) != want {
		t.Errorf("%s: Kids is %v, %v; want nothing, %v", name, kids, err, want)
	}
}

// R27.1
func TestFlood(t *testing.T) {
	cases := []struct {
		n      int
		links  []api.Link
		from   int
		copies []int
		sent   int
	}{
		// nobody to send to
		{1, nil, 0, []int{0}, 0},
		{1, []api.Link{}, 0, []int{0}, 0},
		{8, nil, 7, make([]int, 8), 0},
		{3, []api.Link{link(0, 1, 1)}, 2, []int{0, 0, 0}, 0},

		// what is not linked to the source gets none
		{4, []api.Link{link(0, 1, 1), link(2, 3, 1)}, 3, []int{0, 0, 1, 0}, 1},
		{4, []api.Link{link(0, 1, 1), link(2, 3, 1)}, 0, []int{0, 1, 0, 0}, 1},

		// a tree: everyone gets one copy, and none goes back
		{2, []api.Link{link(0, 1, 20)}, 0, []int{0, 1}, 1},
		{2, []api.Link{link(0, 1, 20)}, 1, []int{1, 0}, 1},
		{3, chain(3, 1), 0, []int{0, 1, 1}, 2},
		{8, chain(8, 20), 0, []int{0, 1, 1, 1, 1, 1, 1, 1}, 7},
		{8, chain(8, 20), 3, []int{1, 1, 1, 0, 1, 1, 1, 1}, 7},
		{8, star(8, 4, 2), 4, []int{1, 1, 1, 1, 0, 1, 1, 1}, 7},
		{8, star(8, 4, 2), 6, []int{1, 1, 1, 1, 1, 1, 0, 1}, 7},

		// a neighbor gets one copy, however many links lead to it
		{2, []api.Link{link(0, 1, 3), link(1, 0, 2), link(0, 1, 4)}, 0, []int{0, 1}, 1},
		{2, same(link(1, 0, 9), 32), 0, []int{0, 1}, 1},
		{3, []api.Link{link(0, 1, 3), link(1, 2, 3), link(2, 1, 1), link(1, 2, 1)}, 0, []int{0, 1, 1}, 2},

		// two that have it from the source send it to each other
		{3, complete(3, 1), 0, []int{0, 2, 2}, 4},
		{3, complete(3, 1), 1, []int{2, 0, 2}, 4},
		{3, complete(3, 20), 2, []int{2, 2, 0}, 4},

		// what comes from the source over a dear link is discarded; the source gets a copy then, and discards that
		{3, dear(), 0, []int{1, 2, 1}, 4},
		{3, dear(), 1, []int{2, 1, 1}, 4},
		{3, dear(), 2, []int{2, 2, 0}, 4},

		// the cheapest one of parallel links tells whether a path is the shortest
		{3, append(dear(), link(1, 0, 2)), 0, []int{0, 2, 2}, 4},
		{3, append(dear(), link(1, 0, 3)), 0, []int{1, 2, 1}, 4},

		// of two neighbors on shortest paths, only the smallest one counts
		{4, square(), 0, []int{0, 1, 2, 2}, 5},
		{4, square(), 3, []int{2, 1, 2, 0}, 5},
		{4, square(), 1, []int{1, 0, 2, 2}, 5},
		{4, square(), 2, []int{1, 2, 0, 2}, 5},

		// seen from the node, not from the source
		{6, hexagon(), 0, []int{0, 1, 1, 1, 2, 2}, 7},
		{6, hexagon(), 5, []int{2, 1, 2, 1, 1, 0}, 7},

		// everyone linked to everyone: each of the others sends to all but the source
		{8, complete(8, 1), 0, []int{0, 7, 7, 7, 7, 7, 7, 7}, 49},
		{8, complete(8, 20), 5, []int{7, 7, 7, 7, 7, 0, 7, 7}, 49},
	}
	for _, c := range cases {
		checkFlood(t, c.n, c.links, c.from, c.copies, c.sent)
	}
}

// R27.2
func TestKids(t *testing.T) {
	checkKids(t, 1, nil, 0, 0)
	checkKids(t, 1, []api.Link{}, 0, 0)
	checkKids(t, 8, nil, 3, 3)
	checkKids(t, 8, nil, 0, 7)

	// the source has those that reach it over a link of their own
	checkKids(t, 2, []api.Link{link(0, 1, 1)}, 0, 0, 1)
	checkKids(t, 2, []api.Link{link(0, 1, 1)}, 1, 1, 0)
	checkKids(t, 8, star(8, 4, 2), 4, 4, 0, 1, 2, 3, 5, 6, 7)
	checkKids(t, 8, complete(8, 20), 0, 0, 1, 2, 3, 4, 5, 6, 7)
	checkKids(t, 8, complete(8, 20), 7, 7, 0, 1, 2, 3, 4, 5, 6)

	// a leaf has none; the source is nobody's
	checkKids(t, 2, []api.Link{link(0, 1, 1)}, 0, 1)
	checkKids(t, 2, []api.Link{link(0, 1, 1)}, 1, 0)
	checkKids(t, 8, star(8, 4, 2), 4, 0)
	checkKids(t, 8, star(8, 4, 2), 0, 0, 4)
	checkKids(t, 8, star(8, 4, 2), 0, 4, 1, 2, 3, 5, 6, 7)
	checkKids(t, 8, star(8, 4, 2), 0, 7)

	// only the next hop counts, not the whole path
	checkKids(t, 4, chain(4, 2), 0, 0, 1)
	checkKids(t, 4, chain(4, 2), 0, 1, 2)
	checkKids(t, 4, chain(4, 2), 0, 2, 3)
	checkKids(t, 4, chain(4, 2), 0, 3)
	checkKids(t, 4, chain(4, 2), 2, 2, 1, 3)
	checkKids(t, 4, chain(4, 2), 3, 1, 0)

	// what is not linked to the source is nobody's, and has none
	checkKids(t, 4, []api.Link{link(0, 1, 1), link(2, 3, 1)}, 0, 2)
	checkKids(t, 4, []api.Link{link(0, 1, 1), link(2, 3, 1)}, 0, 0, 1)
	checkKids(t, 4, []api.Link{link(0, 1, 1), link(2, 3, 1)}, 3, 3, 2)

	// a neighbor that goes another, cheaper way is none of the source's
	checkKids(t, 3, dear(), 0, 0, 2)
	checkKids(t, 3, dear(), 0, 2, 1)
	checkKids(t, 3, dear(), 0, 1)
	checkKids(t, 3, append(dear(), link(0, 1, 1)), 0, 0, 1, 2)

	// of two neighbors on shortest paths the smallest one has it, even if that is the source
	checkKids(t, 4, square(), 0, 0, 1, 2)
	checkKids(t, 4, square(), 0, 1, 3)
	checkKids(t, 4, square(), 0, 2)
	checkKids(t, 4, square(), 1, 0, 2)
	checkKids(t, 4, square(), 1, 3)
	checkKids(t, 3, []api.Link{link(0, 1, 1), link(1, 2, 1), link(0, 2, 2)}, 0, 0, 1, 2)
	checkKids(t, 3, []api.Link{link(0, 1, 1), link(1, 2, 1), link(0, 2, 2)}, 2, 1, 0)
	checkKids(t, 3, []api.Link{link(0, 1, 1), link(1, 2, 1), link(0, 2, 2)}, 2, 2, 1)

	// seen from the node, not from the source
	checkKids(t, 6, hexagon(), 0, 3, 5)
	checkKids(t, 6, hexagon(), 0, 4)
	checkKids(t, 6, hexagon(), 5, 1, 0)
	checkKids(t, 6, hexagon(), 5, 2)
}

// R27.1 and R27.2: the errors of vector.Check, in front of those of nodes.
func TestErrors(t *testing.T) {
	good := link(0, 1, 3)
	cases := []struct {
		name  string
		n     int
		links []api.Link
		err   api.Errno
	}{
		{"no nodes", 0, nil, api.ErrRange},
		{"-1 nodes", -1, nil, api.ErrRange},
		{"one node too many", 9, nil, api.ErrRange},
		{"far more than an int of 32 bits holds", 1<<32 + 2, nil, api.ErrRange},
		{"the least number of all", math.MinInt, nil, api.ErrRange},
		{"the greatest number of all", math.MaxInt, nil, api.ErrRange},
		{"no nodes, and too many links", 0, same(good, 33), api.ErrRange},
		{"one node too many, and a link to itself", 9, []api.Link{link(1, 1, 1)}, api.ErrRange},
		{"one link too many", 2, same(good, 33), api.ErrFull},
		{"too many links, all out of range", 2, same(link(-1, 2, 0), 33), api.ErrFull},
		{"too many links, all to themselves", 2, same(link(1, 1, 1), 33), api.ErrFull},
		{"A of -1", 3, []api.Link{link(-1, 1, 3)}, api.ErrRange},
		{"A behind the last node", 3, []api.Link{link(3, 1, 3)}, api.ErrRange},
		{"B of -1", 3, []api.Link{link(1, -1, 3)}, api.ErrRange},
		{"B behind the last node", 3, []api.Link{link(1, 3, 3)}, api.ErrRange},
		{"B behind the last node of all", 8, []api.Link{link(1, 8, 3)}, api.ErrRange},
		{"a cost of 0", 2, []api.Link{link(0, 1, 0)}, api.ErrRange},
		{"a cost of -1", 2, []api.Link{link(0, 1, -1)}, api.ErrRange},
		{"a cost one too large", 2, []api.Link{link(0, 1, 21)}, api.ErrRange},
		{"the last link out of range", 2, append(same(good, 31), link(0, 2, 3)), api.ErrRange},
		{"a link to itself without a cost", 3, []api.Link{link(1, 1, 0)}, api.ErrRange},
		{"a link out of range in front of one to itself", 3, []api.Link{link(0, 3, 1), link(1, 1, 1)}, api.ErrRange},
		{"a link to itself", 2, []api.Link{link(0, 0, 1)}, api.ErrShape},
		{"a link of the only node to itself", 1, []api.Link{link(0, 0, 1)}, api.ErrShape},
		{"a link to itself in front of one out of range", 3, []api.Link{link(1, 1, 1), link(0, 3, 1)}, api.ErrShape},
		{"the last link to itself", 2, append(same(good, 31), link(1, 1, 3)), api.ErrShape},
	}
	for _, c := range cases {
		for _, from := range []int{0, 1, -1, 9, math.MinInt, math.MaxInt} {
			checkNoFlood(t, c.name, c.n, c.links, from, c.err)
			checkNoKids(t, c.name, c.n, c.links, from, 0, c.err)
			checkNoKids(t, c.name, c.n, c.links, 0, from, c.err)
			checkNoKids(t, c.name, c.n, c.links, from, from, c.err)
		}
	}
}

// R27.1 and R27.2: what is not a node, with and without links.
func TestNodes(t *testing.T) {
	for n := 1; n <= 8; n++ {
		for _, links := range [][]api.Link{nil, chain(n, 1)} {
			for _, wrong := range []int{-1, n, n + 1, 1 << 32, -1 << 32, math.MinInt, math.MaxInt} {
				checkNoFlood(t, "no source", n, links, wrong, api.ErrRange)
				checkNoKids(t, "no source", n, links, wrong, 0, api.ErrRange)
				checkNoKids(t, "no node to look at", n, links, 0, wrong, api.ErrRange)
				checkNoKids(t, "neither of them", n, links, wrong, wrong, api.ErrRange)
			}
		}
	}
	checkFlood(t, 8, chain(8, 1), 7, []int{1, 1, 1, 1, 1, 1, 1, 0}, 7)
	checkKids(t, 8, chain(8, 1), 7, 7, 6)
	checkKids(t, 8, chain(8, 1), 7, 0)
	checkKids(t, 8, chain(8, 1), 0, 7)
}

// never is more than any path costs.
const never = 1_000_000

// distances has the costs of the links and of the shortest paths between all nodes: it shortens each path over each node in turn.
func distances(n int, links []api.Link) (direct, costs [8][8]int) {
	for a := range n {
		for b := range n {
			direct[a][b] = never
		}
	}
	for _, l := range links {
		direct[l.A][l.B] = min(direct[l.A][l.B], l.Cost)
		direct[l.B][l.A] = min(direct[l.B][l.A], l.Cost)
	}
	costs = direct
	for a := range n {
		costs[a][a] = 0
	}
	for middle := range n {
		for a := range n {
			for b := range n {
				costs[a][b] = min(costs[a][b], costs[a][middle]+costs[middle][b])
			}
		}
	}
	return direct, costs
}

// nextHops has for each node its smallest neighbor from which the rest of a shortest path to the source goes on.
func nextHops(n, from int, direct, costs [8][8]int) []int {
	next := slices.Repeat([]int{-1}, n)
	for node := range n {
		if node == from || costs[node][from] >= never {
			continue
		}
		for neighbor := n - 1; neighbor >= 0; neighbor-- {
			if direct[node][neighbor]+costs[neighbor][from] == costs[node][from] {
				next[node] = neighbor
			}
		}
	}
	return next
}

// checkModel compares a network with a model that sends nothing: a node gets a copy from each neighbor that the broadcast reaches, unless it is itself that neighbor's next hop.
func checkModel(t *testing.T, n int, links []api.Link) {
	t.Helper()
	direct, costs := distances(n, links)
	for from := range n {
		next := nextHops(n, from, direct, costs)
		copies, sent := make([]int, n), 0
		for node := range n {
			for neighbor := range n {
				if direct[node][neighbor] < never && costs[neighbor][from] < never && next[neighbor] != node {
					copies[node]++
					sent++
				}
			}
		}
		checkFlood(t, n, links, from, copies, sent)
		for at := range n {
			var kids []int
			for node, hop := range next {
				if hop == at {
					kids = append(kids, node)
				}
			}
			checkKids(t, n, links, from, at, kids...)
		}
	}
}

// R27.1 and R27.2: up to three links of small costs between three nodes, in any order and any way round.
func TestSmall(t *testing.T) {
	var all []api.Link
	for a := range 3 {
		for b := range 3 {
			for _, cost := range []int{1, 2, 4} {
				if a != b {
					all = append(all, link(a, b, cost))
				}
			}
		}
	}
	checkModel(t, 3, nil)
	for _, x := range all {
		checkModel(t, 3, []api.Link{x})
		for _, y := range all {
			checkModel(t, 3, []api.Link{x, y})
			for _, z := range all {
				checkModel(t, 3, []api.Link{x, y, z})
			}
		}
	}
}

// R27.1 and R27.2: all networks of four nodes with each two of them linked at some cost or not at all.
func TestFour(t *testing.T) {
	pairs := [][2]int{{0, 1}, {0, 2}, {0, 3}, {1, 2}, {1, 3}, {2, 3}}
	for number := range 1 << 12 {
		var links []api.Link
		rest := number
		for _, pair := range pairs {
			if cost := rest % 4; cost > 0 {
				links = append(links, link(pair[0], pair[1], cost))
			}
			rest /= 4
		}
		checkModel(t, 4, links)
	}
}

// some returns a network of any size, another for each seed.
func some(seed uint32) (n int, links []api.Link) {
	next := func(limit int) int {
		seed = seed*1_664_525 + 1_013_904_223
		return int(seed>>8) % limit
	}
	n = 2 + next(7)
	count := next(2 * n)
	if next(4) == 0 {
		count = next(33)
	}
	// Small costs make many paths that cost the same.
	greatest := 1 + next(4)
	if next(4) == 0 {
		greatest = 20
	}
	for range count {
		a := next(n)
		b := (a + 1 + next(n-1)) % n
		links = append(links, link(a, b, 1+next(greatest)))
	}
	return n, links
}

// R27.1 and R27.2: networks of all sizes.
func TestMany(t *testing.T) {
	for seed := range uint32(1000) {
		n, links := some(seed)
		checkModel(t, n, links)
	}
}

// R27.1 and R27.2: every pair of the most nodes linked, and as many links as may be.
func TestMost(t *testing.T) {
	for _, greatest := range []int{1, 2, 3, 20} {
		var links []api.Link
		for b := range 8 {
			for a := range b {
				links = append(links, link(b, a, 1+(a*a*7+b*5)%greatest))
			}
		}
		links = append(links, chain(5, 1)...)
		if len(links) != 32 {
			t.Errorf("these are %d links; want 32", len(links))
		}
		checkModel(t, 8, links)
	}
}

// Z2: arguments and their spare capacity stay as they are, and results have memory of their own.
func TestMemory(t *testing.T) {
	original := []api.Link{link(0, 1, 3), link(2, 1, 4), link(5, 5, 5), link(6, 6, 6)}
	memory := slices.Clone(original)
	links := memory[:2]
	var results [][]int
	for range 2 {
		copies, _, err := rpf.Flood(3, links, 1)
		if err != nil {
			t.Fatal(err)
		}
		kids, err := rpf.Kids(3, links, 1, 1)
		if err != nil {
			t.Fatal(err)
		}
		results = append(results, copies, kids)
	}
	if !slices.Equal(memory, original) {
		t.Errorf("the memory of the links is %v", memory)
	}
	clear(memory)
	// What is written into one result, and behind it, is seen in no other one.
	want := [][]int{{1, 0, 1}, {0, 2}, {1, 0, 1}, {0, 2}}
	for i, result := range results {
		if !slices.Equal(result, want[i]) {
			t.Errorf("result %d has become %v", i, result)
		}
		result = result[:cap(result)]
		for at := range result {
			result[at] = -7
		}
	}
}

// Z2: a call does not depend on those before it.
func TestAgain(t *testing.T) {
	for range 3 {
		checkFlood(t, 3, dear(), 0, []int{1, 2, 1}, 4)
		checkNoFlood(t, "a link to itself", 3, []api.Link{link(1, 1, 1)}, 0, api.ErrShape)
		checkKids(t, 3, dear(), 0, 2, 1)
		checkNoKids(t, "no node", 3, dear(), 0, 3, api.ErrRange)
		checkFlood(t, 2, nil, 0, []int{0, 0}, 0)
		checkKids(t, 2, nil, 0, 0)
	}
}
