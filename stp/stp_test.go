package stp_test

import (
	"math"
	"slices"
	"testing"

	"ferryhythe/api"
	"ferryhythe/plain"
	"ferryhythe/stp"
)

// link is a link between two bridges.
func link(a, b, cost int) api.Link {
	return api.Link{A: a, B: b, Cost: cost}
}

// chain is n bridges in a line, each linked to the next one.
func chain(n, cost int) []api.Link {
	var links []api.Link
	for i := range n - 1 {
		links = append(links, link(i, i+1, cost))
	}
	return links
}

// same is n times one link.
func same(one api.Link, n int) []api.Link {
	return slices.Repeat([]api.Link{one}, n)
}

// checkTree checks what Tree returns.
func checkTree(t *testing.T, n int, links []api.Link, root, far, over []int) {
	t.Helper()
	gotRoot, gotFar, gotOver, err := stp.Tree(n, links)
	if !slices.Equal(gotRoot, root) || !slices.Equal(gotFar, far) || !slices.Equal(gotOver, over) || err != nil {
		t.Fatalf("Tree(%d, %v) is %v, %v, %v, %v; want %v, %v, %v", n, links, gotRoot, gotFar, gotOver, err, root, far, over)
	}
}

// checkUsed checks what Used returns.
func checkUsed(t *testing.T, n int, links []api.Link, want []bool) {
	t.Helper()
	used, err := stp.Used(n, links)
	if !slices.Equal(used, want) || err != nil {
		t.Fatalf("Used(%d, %v) is %v, %v; want %v", n, links, used, err, want)
	}
}

// places are the numbers of the links that Used tells to be in the tree.
func places(count int, in ...int) []bool {
	used := make([]bool, count)
	for _, i := range in {
		used[i] = true
	}
	return used
}

// R25.1
func TestTree(t *testing.T) {
	cases := []struct {
		n               int
		links           []api.Link
		root, far, over []int
	}{
		// a bridge without links is its own root
		{1, nil, []int{0}, []int{0}, []int{-1}},
		{1, []api.Link{}, []int{0}, []int{0}, []int{-1}},
		{3, nil, []int{0, 1, 2}, []int{0, 0, 0}, []int{-1, -1, -1}},
		{8, nil, []int{0, 1, 2, 3, 4, 5, 6, 7}, make([]int, 8), []int{-1, -1, -1, -1, -1, -1, -1, -1}},

		// the smaller one of two bridges is the root, however the link is written
		{2, []api.Link{link(0, 1, 3)}, []int{0, 0}, []int{0, 3}, []int{-1, 0}},
		{2, []api.Link{link(1, 0, 20)}, []int{0, 0}, []int{0, 20}, []int{-1, 0}},

		// each part of the network has a root of its own, the smallest bridge in it
		{4, []api.Link{link(0, 2, 4), link(3, 1, 20)}, []int{0, 1, 0, 1}, []int{0, 0, 4, 20}, []int{-1, -1, 0, 1}},
		{5, []api.Link{link(4, 3, 2), link(3, 1, 5)}, []int{0, 1, 2, 1, 1}, []int{0, 0, 0, 5, 7}, []int{-1, -1, -1, 1, 3}},
		{3, []api.Link{link(1, 2, 1)}, []int{0, 1, 1}, []int{0, 0, 1}, []int{-1, -1, 1}},

		// the root is far away, and the path there goes over greater bridges
		{4, []api.Link{link(0, 3, 2), link(3, 2, 3), link(2, 1, 4)}, []int{0, 0, 0, 0}, []int{0, 9, 5, 2}, []int{-1, 2, 3, 0}},
		{8, chain(8, 20), make([]int, 8), []int{0, 20, 40, 60, 80, 100, 120, 140}, []int{-1, 0, 1, 2, 3, 4, 5, 6}},

		// of parallel links the cheapest one counts, wherever it stands
		{2, []api.Link{link(0, 1, 3), link(1, 0, 2), link(0, 1, 4)}, []int{0, 0}, []int{0, 2}, []int{-1, 0}},
		{2, same(link(1, 0, 9), 32), []int{0, 0}, []int{0, 9}, []int{-1, 0}},

		// a path over more links may be cheaper than the link to the root
		{3, []api.Link{link(0, 1, 5), link(0, 2, 1), link(2, 1, 1)}, []int{0, 0, 0}, []int{0, 2, 1}, []int{-1, 2, 0}},

		// of several shortest paths the one with the smallest next hop counts, in any order of the links
		{4, []api.Link{link(0, 2, 1), link(0, 1, 1), link(2, 3, 1), link(1, 3, 1)}, []int{0, 0, 0, 0}, []int{0, 1, 1, 2}, []int{-1, 0, 0, 1}},
		{4, []api.Link{link(3, 1, 1), link(3, 2, 1), link(1, 0, 1), link(2, 0, 1)}, []int{0, 0, 0, 0}, []int{0, 1, 1, 2}, []int{-1, 0, 0, 1}},

		// that may be the root itself, or a bridge behind which the path has more links
		{3, []api.Link{link(1, 2, 1), link(0, 1, 1), link(0, 2, 2)}, []int{0, 0, 0}, []int{0, 1, 2}, []int{-1, 0, 0}},
		{5, []api.Link{link(4, 3, 2), link(3, 0, 2), link(4, 1, 1), link(1, 2, 1), link(2, 0, 2)}, []int{0, 0, 0, 0, 0}, []int{0, 3, 2, 2, 4}, []int{-1, 2, 0, 0, 1}},

		// a smaller next hop of a path that costs more does not count
		{4, []api.Link{link(0, 1, 2), link(0, 2, 1), link(2, 3, 1), link(1, 3, 1)}, []int{0, 0, 0, 0}, []int{0, 2, 1, 2}, []int{-1, 0, 0, 2}},
	}
	for _, c := range cases {
		checkTree(t, c.n, c.links, c.root, c.far, c.over)
	}
}

// R25.2
func TestUsed(t *testing.T) {
	cases := []struct {
		n     int
		links []api.Link
		used  []bool
	}{
		{1, nil, nil},
		{8, nil, nil},
		{8, []api.Link{}, nil},
		{2, []api.Link{link(0, 1, 3)}, places(1, 0)},
		{2, []api.Link{link(1, 0, 20)}, places(1, 0)},
		{8, chain(8, 20), places(7, 0, 1, 2, 3, 4, 5, 6)},
		{4, []api.Link{link(0, 2, 4), link(3, 1, 20)}, places(2, 0, 1)},

		// of parallel links the cheapest one is in the tree, wherever it stands and however it is written
		{2, []api.Link{link(0, 1, 3), link(0, 1, 2)}, places(2, 1)},
		{2, []api.Link{link(0, 1, 2), link(0, 1, 3)}, places(2, 0)},
		{2, []api.Link{link(0, 1, 3), link(1, 0, 2), link(0, 1, 4)}, places(3, 1)},

		// and of those as cheap as it the first one
		{2, []api.Link{link(0, 1, 2), link(0, 1, 2)}, places(2, 0)},
		{2, []api.Link{link(1, 0, 2), link(0, 1, 2)}, places(2, 0)},
		{2, []api.Link{link(0, 1, 3), link(0, 1, 2), link(1, 0, 2), link(0, 1, 3)}, places(4, 1)},
		{2, same(link(1, 0, 9), 32), places(32, 0)},

		// links that close a ring are not in the tree, though shortest paths may lead over them
		{3, []api.Link{link(0, 1, 1), link(1, 2, 1), link(0, 2, 1)}, places(3, 0, 2)},
		{3, []api.Link{link(0, 1, 5), link(0, 2, 1), link(2, 1, 1)}, places(3, 1, 2)},
		{4, []api.Link{link(0, 2, 1), link(0, 1, 1), link(2, 3, 1), link(1, 3, 1)}, places(4, 0, 1, 3)},
		{3, []api.Link{link(1, 2, 1), link(0, 1, 1), link(0, 2, 2)}, places(3, 1, 2)},

		// a cheap link between two bridges that go to the root on their own is not in the tree, a dear one to the root is
		{3, []api.Link{link(1, 2, 1), link(0, 1, 20), link(0, 2, 20)}, places(3, 1, 2)},

		// parallel links between other bridges, and rings in other parts of the network
		{5, []api.Link{link(4, 2, 1), link(3, 2, 1), link(4, 3, 1), link(0, 1, 7), link(2, 4, 1), link(1, 0, 6)}, places(6, 0, 1, 5)},

		// the cheapest link between a bridge and its next hop, not between any others
		{3, []api.Link{link(1, 2, 1), link(0, 1, 4), link(2, 1, 1), link(0, 2, 6), link(1, 0, 4)}, places(5, 0, 1)},
	}
	for _, c := range cases {
		checkUsed(t, c.n, c.links, c.used)
	}
}

// R25.1 and R25.2: the errors of vector.Check.
func TestErrors(t *testing.T) {
	good := link(0, 1, 3)
	cases := []struct {
		name  string
		n     int
		links []api.Link
		err   api.Errno
	}{
		{"no bridges", 0, nil, api.ErrRange},
		{"-1 bridges", -1, nil, api.ErrRange},
		{"one bridge too many", 9, nil, api.ErrRange},
		{"far more than an int of 32 bits holds", 1<<32 + 2, nil, api.ErrRange},
		{"the least number of all", math.MinInt, nil, api.ErrRange},
		{"the greatest number of all", math.MaxInt, nil, api.ErrRange},
		{"no bridges, and a link", 0, []api.Link{good}, api.ErrRange},
		{"no bridges, and too many links", 0, same(good, 33), api.ErrRange},
		{"one bridge too many, and too many links", 9, same(good, 33), api.ErrRange},
		{"one bridge too many, and a link to itself", 9, []api.Link{link(1, 1, 1)}, api.ErrRange},
		{"one link too many", 2, same(good, 33), api.ErrFull},
		{"too many links, all out of range", 2, same(link(-1, 2, 0), 33), api.ErrFull},
		{"too many links, all to themselves", 2, same(link(1, 1, 1), 33), api.ErrFull},
		{"A of -1", 3, []api.Link{link(-1, 1, 3)}, api.ErrRange},
		{"A behind the last bridge", 3, []api.Link{link(3, 1, 3)}, api.ErrRange},
		{"B of -1", 3, []api.Link{link(1, -1, 3)}, api.ErrRange},
		{"B behind the last bridge", 3, []api.Link{link(1, 3, 3)}, api.ErrRange},
		{"B behind the last bridge of all", 8, []api.Link{link(1, 8, 3)}, api.ErrRange},
		{"a cost of 0", 2, []api.Link{link(0, 1, 0)}, api.ErrRange},
		{"a cost of -1", 2, []api.Link{link(0, 1, -1)}, api.ErrRange},
		{"a cost one too large", 2, []api.Link{link(0, 1, 21)}, api.ErrRange},
		{"the last link out of range", 2, append(same(good, 31), link(0, 2, 3)), api.ErrRange},
		{"a link to itself without a cost", 3, []api.Link{link(1, 1, 0)}, api.ErrRange},
		{"a link out of range in front of one to itself", 3, []api.Link{link(0, 3, 1), link(1, 1, 1)}, api.ErrRange},
		{"a link to itself", 2, []api.Link{link(0, 0, 1)}, api.ErrShape},
		{"a link of the only bridge to itself", 1, []api.Link{link(0, 0, 1)}, api.ErrShape},
		{"a link to itself in front of one out of range", 3, []api.Link{link(1, 1, 1), link(0, 3, 1)}, api.ErrShape},
		{"the last link to itself", 2, append(same(good, 31), link(1, 1, 3)), api.ErrShape},
	}
	for _, c := range cases {
		root, far, over, err := stp.Tree(c.n, c.links)
		if len(root) != 0 || len(far) != 0 || len(over) != 0 || plain.Told(err) != c.err {
			t.Errorf("%s: Tree is %v, %v, %v, %v; want nothing, %v", c.name, root, far, over, err, c.err)
		}
		used, err := stp.Used(c.n, c.links)
		if len(used) != 0 || plain.Told(err) != c.err {
			t.Errorf("%s: Used is %v, %v; want nothing, %v", c.name, used, err, c.err)
		}
	}
}

// never is more than any path costs.
const never = 1_000_000

// distances has the costs of the shortest paths between all bridges: it shortens each path over each bridge in turn.
func distances(n int, links []api.Link) (costs [8][8]int) {
	for a := range n {
		for b := range n {
			if a != b {
				costs[a][b] = never
			}
		}
	}
	for _, l := range links {
		costs[l.A][l.B] = min(costs[l.A][l.B], l.Cost)
		costs[l.B][l.A] = min(costs[l.B][l.A], l.Cost)
	}
	for middle := range n {
		for a := range n {
			for b := range n {
				costs[a][b] = min(costs[a][b], costs[a][middle]+costs[middle][b])
			}
		}
	}
	return costs
}

// nextHop is the smallest bridge to which a link leads from which the rest of a shortest path to the root goes on.
func nextHop(links []api.Link, costs [8][8]int, bridge, root int) int {
	best := -1
	for _, l := range links {
		for _, ends := range [][2]int{{l.A, l.B}, {l.B, l.A}} {
			next := ends[1]
			if ends[0] != bridge || l.Cost+costs[next][root] != costs[bridge][root] {
				continue
			}
			if best < 0 || next < best {
				best = next
			}
		}
	}
	return best
}

// inTree tells whether a link is between a bridge and its next hop, with none in front of it that is as cheap and none behind it that is cheaper.
func inTree(links []api.Link, over []int, i int) bool {
	a, b := links[i].A, links[i].B
	if over[a] != b && over[b] != a {
		return false
	}
	for j, l := range links {
		between := l.A == a && l.B == b || l.A == b && l.B == a
		if between && (l.Cost < links[i].Cost || l.Cost == links[i].Cost && j < i) {
			return false
		}
	}
	return true
}

// checkForest checks that the links in the tree join each bridge with its root, and that none of them can be spared.
func checkForest(t *testing.T, n int, links []api.Link, root []int, used []bool) {
	t.Helper()
	part := make([]int, n)
	for bridge := range part {
		part[bridge] = bridge
	}
	for i, l := range links {
		if !used[i] {
			continue
		}
		from, to := part[l.A], part[l.B]
		if from == to {
			t.Fatalf("%d bridges with the links %v: the tree of %v has a ring", n, links, used)
		}
		for bridge := range part {
			if part[bridge] == from {
				part[bridge] = to
			}
		}
	}
	for bridge := range n {
		if part[bridge] != part[root[bridge]] {
			t.Fatalf("%d bridges with the links %v: the tree of %v does not join %d with its root", n, links, used, bridge)
		}
	}
}

// checkModel compares a network with the model.
func checkModel(t *testing.T, n int, links []api.Link) {
	t.Helper()
	costs := distances(n, links)
	var root, far, over []int
	for bridge := range n {
		smallest := 0
		for costs[bridge][smallest] >= never {
			smallest++
		}
		root = append(root, smallest)
		far = append(far, costs[bridge][smallest])
		if smallest == bridge {
			over = append(over, -1)
		} else {
			over = append(over, nextHop(links, costs, bridge, smallest))
		}
	}
	checkTree(t, n, links, root, far, over)
	used := make([]bool, len(links))
	for i := range links {
		used[i] = inTree(links, over, i)
	}
	checkUsed(t, n, links, used)
	checkForest(t, n, links, root, used)
}

// R25.1 and R25.2: up to three links of small costs between three bridges, in any order and any way round.
func TestSmall(t *testing.T) {
	var all []api.Link
	for a := range 3 {
		for b := range 3 {
			for _, cost := range []int{1, 2, 4} {
				if a != b {
					all = append(all, link(a, b, cost))
				}
			}
		}
	}
	checkModel(t, 3, nil)
	for _, x := range all {
		checkModel(t, 3, []api.Link{x})
		for _, y := range all {
			checkModel(t, 3, []api.Link{x, y})
			for _, z := range all {
				checkModel(t, 3, []api.Link{x, y, z})
			}
		}
	}
}

// R25.1 and R25.2: all networks of four bridges with each two of them linked at some cost or not at all.
func TestFour(t *testing.T) {
	pairs := [][2]int{{0, 1}, {0, 2}, {0, 3}, {1, 2}, {1, 3}, {2, 3}}
	for number := range 1 << 12 {
		var links []api.Link
		rest := number
		for _, pair := range pairs {
			if cost := rest % 4; cost > 0 {
				links = append(links, link(pair[0], pair[1], cost))
			}
			rest /= 4
		}
		checkModel(t, 4, links)
	}
}

// some returns a network of any size, another for each seed.
func some(seed uint32) (n int, links []api.Link) {
	next := func(limit int) int {
		seed = seed*1_664_525 + 1_013_904_223
		return int(seed>>8) % limit
	}
	n = 2 + next(7)
	count := next(2 * n)
	if next(4) == 0 {
		count = next(33)
	}
	// Small costs make many paths that cost the same.
	greatest := 1 + next(4)
	if next(4) == 0 {
		greatest = 20
	}
	for range count {
		a := next(n)
		b := (a + 1 + next(n-1)) % n
		links = append(links, link(a, b, 1+next(greatest)))
	}
	return n, links
}

// R25.1 and R25.2: networks of all sizes.
func TestMany(t *testing.T) {
	for seed := range uint32(5000) {
		n, links := some(seed)
		checkModel(t, n, links)
	}
}

// R25.1 and R25.2: every pair of the most bridges linked, and as many links as may be.
func TestMost(t *testing.T) {
	for _, greatest := range []int{1, 2, 3, 20} {
		var links []api.Link
		for b := range 8 {
			for a := range b {
				links = append(links, link(b, a, 1+(a*a*7+b*5)%greatest))
			}
		}
		links = append(links, chain(5, 1)...)
		if len(links) != 32 {
			t.Errorf("these are %d links; want 32", len(links))
		}
		checkModel(t, 8, links)
	}
}

// Z2: arguments and their spare capacity stay as they are, and results have memory of their own.
func TestMemory(t *testing.T) {
	original := []api.Link{link(0, 1, 3), link(2, 1, 4), link(5, 5, 5), link(6, 6, 6)}
	memory := slices.Clone(original)
	links := memory[:2]
	root, far, over, err := stp.Tree(3, links)
	if err != nil {
		t.Fatal(err)
	}
	moreRoot, moreFar, moreOver, err := stp.Tree(3, links)
	if err != nil {
		t.Fatal(err)
	}
	used, err := stp.Used(3, links)
	if err != nil {
		t.Fatal(err)
	}
	moreUsed, err := stp.Used(3, links)
	if err != nil {
		t.Fatal(err)
	}
	if !slices.Equal(memory, original) {
		t.Errorf("the memory of the links is %v", memory)
	}
	clear(memory)
	clear(used[:cap(used)])
	if !slices.Equal(moreUsed, []bool{true, true}) {
		t.Errorf("what is used has become %v", moreUsed)
	}
	// What is written into one result, and behind it, is seen in no other one.
	results := [][]int{root, far, over, moreRoot, moreFar, moreOver}
	want := [][]int{{0, 0, 0}, {0, 3, 7}, {-1, 0, 1}, {0, 0, 0}, {0, 3, 7}, {-1, 0, 1}}
	for i, result := range results {
		if !slices.Equal(result, want[i]) {
			t.Errorf("result %d has become %v", i, result)
		}
		result = result[:cap(result)]
		for at := range result {
			result[at] = -7
		}
	}
}

// Z2: a call does not depend on those before it.
func TestAgain(t *testing.T) {
	for range 3 {
		checkTree(t, 3, chain(3, 2), []int{0, 0, 0}, []int{0, 2, 4}, []int{-1, 0, 1})
		if _, _, _, err := stp.Tree(3, []api.Link{link(1, 1, 1)}); plain.Told(err) != api.ErrShape {
			t.Errorf("a link to itself: %v", err)
		}
		checkUsed(t, 3, chain(3, 2), places(2, 0, 1))
		if _, err := stp.Used(0, nil); plain.Told(err) != api.ErrRange {
			t.Errorf("no bridges: %v", err)
		}
		checkTree(t, 2, nil, []int{0, 1}, []int{0, 0}, []int{-1, -1})
	}
}
