package nat_test

import (
	"math"
	"slices"
	"testing"

	"ferryhythe/api"
	"ferryhythe/nat"
	"ferryhythe/plain"
)

// outside are numbers that are neither addresses nor ports.
var outside = []int{math.MinInt, math.MinInt + 1, -1 << 32, -api.MaxAddr, -1, api.MaxAddr + 1, 1 << 32, 1<<32 + 100, math.MaxInt - 1, math.MaxInt}

// table is a new table, which New must make.
func table(t *testing.T, low, many int) *nat.Table {
	t.Helper()
	n, err := nat.New(low, many)
	if n == nil || err != nil {
		t.Fatalf("New(%d, %d) is %v, %v; want a table", low, many, n, err)
	}
	return n
}

// full is a table of which every port from low on is lent to the address of its number, with the port 7.
func full(t *testing.T, low, many int) *nat.Table {
	t.Helper()
	n := table(t, low, many)
	for port := low; port < low+many; port++ {
		checkOut(t, n, api.Place{Addr: port, Port: 7}, port)
	}
	return n
}

// checkNoNew checks that a table is refused.
func checkNoNew(t *testing.T, low, many int) {
	t.Helper()
	if n, err := nat.New(low, many); n != nil || plain.Told(err) != api.ErrRange {
		t.Errorf("New(%d, %d) is %v, %v; want nil, ErrRange", low, many, n, err)
	}
}

// checkOut checks which port an endpoint has.
func checkOut(t *testing.T, n *nat.Table, p api.Place, want int) {
	t.Helper()
	if port, err := n.Out(p); port != want || err != nil {
		t.Fatalf("Out(%v) is %d, %v; want %d", p, port, err, want)
	}
}

// checkNoOut checks that an endpoint gets no port.
func checkNoOut(t *testing.T, n *nat.Table, p api.Place, want api.Errno) {
	t.Helper()
	if port, err := n.Out(p); port != 0 || plain.Told(err) != want {
		t.Fatalf("Out(%v) is %d, %v; want %v", p, port, err, want)
	}
}

// checkIn checks to which endpoint a port is assigned.
func checkIn(t *testing.T, n *nat.Table, port int, want api.Place) {
	t.Helper()
	if p, err := n.In(port); p != want || err != nil {
		t.Fatalf("In(%d) is %v, %v; want %v", port, p, err, want)
	}
}

// checkNoIn checks that ports are assigned to no endpoint.
func checkNoIn(t *testing.T, n *nat.Table, ports ...int) {
	t.Helper()
	for _, port := range ports {
		if p, err := n.In(port); p != (api.Place{}) || plain.Told(err) != api.ErrNone {
			t.Fatalf("In(%d) is %v, %v; want ErrNone", port, p, err)
		}
	}
}

// drop releases ports that are in use.
func drop(t *testing.T, n *nat.Table, ports ...int) {
	t.Helper()
	for _, port := range ports {
		if err := n.Drop(port); err != nil {
			t.Fatalf("Drop(%d) is %v; want nil", port, err)
		}
	}
}

// checkNoDrop checks that ports are not in use.
func checkNoDrop(t *testing.T, n *nat.Table, ports ...int) {
	t.Helper()
	for _, port := range ports {
		if err := n.Drop(port); plain.Told(err) != api.ErrNone {
			t.Fatalf("Drop(%d) is %v; want ErrNone", port, err)
		}
	}
}

// checkLent checks which ports are in use.
func checkLent(t *testing.T, n *nat.Table, want ...int) {
	t.Helper()
	if got := n.Lent(); !slices.Equal(got, want) {
		t.Fatalf("Lent is %v; want %v", got, want)
	}
}

// upFrom are so many numbers from low on.
func upFrom(low, many int) []int {
	var l []int
	for i := range many {
		l = append(l, low+i)
	}
	return l
}

// R30.1
func TestNew(t *testing.T) {
	for _, low := range []int{0, 1, 100, api.MaxAddr - api.MaxPort + 1} {
		for many := 1; many <= api.MaxPort; many++ {
			n := table(t, low, many)
			checkLent(t, n)
			checkNoIn(t, n, upFrom(low, many)...)
			checkNoDrop(t, n, upFrom(low, many)...)
			for i := range many {
				checkOut(t, n, api.Place{Addr: 1, Port: i}, low+i)
			}
			checkNoOut(t, n, api.Place{Addr: 1, Port: many}, api.ErrFull)
			checkLent(t, n, upFrom(low, many)...)
		}
	}
}

// R30.1
func TestNewAtTheEnd(t *testing.T) {
	for many := 1; many <= api.MaxPort; many++ {
		// the last port is the greatest one there is
		low := api.MaxAddr - many + 1
		checkLent(t, full(t, low, many), upFrom(low, many)...)
		checkNoNew(t, low+1, many)
	}
}

// R30.1
func TestNewErrors(t *testing.T) {
	for _, bad := range outside {
		for _, many := range []int{1, 2, api.MaxPort} {
			checkNoNew(t, bad, many)
		}
		for _, low := range []int{0, 100, api.MaxAddr} {
			checkNoNew(t, low, bad)
		}
		for _, worse := range outside {
			checkNoNew(t, bad, worse)
		}
	}
	for _, low := range []int{0, 1, 100, api.MaxAddr} {
		for _, many := range []int{-2, 0, api.MaxPort + 1, api.MaxAddr} {
			checkNoNew(t, low, many)
		}
	}
	checkNoNew(t, -1, 5)
	checkNoNew(t, -30, 30)
	checkNoNew(t, api.MaxAddr, 2)
	checkNoNew(t, api.MaxAddr+1, 0)
	checkNoNew(t, api.MaxAddr-28, 30)
}

// R30.1
func TestNewIsApart(t *testing.T) {
	one, two := table(t, 10, 3), table(t, 10, 3)
	p := api.Place{Addr: 1, Port: 2}
	checkOut(t, one, p, 10)
	checkLent(t, two)
	checkNoIn(t, two, 10)
	checkOut(t, two, api.Place{Addr: 5, Port: 5}, 10)
	checkOut(t, two, p, 11)
	checkIn(t, one, 10, p)
	drop(t, two, 10)
	checkOut(t, one, p, 10)
	checkLent(t, one, 10)
	checkLent(t, two, 11)
	checkLent(t, table(t, 10, 3))
}

// R30.2
func TestOut(t *testing.T) {
	n := table(t, 100, 4)
	// address and port both count, and neither stands for the other
	places := []api.Place{{Addr: 1, Port: 2}, {Addr: 2, Port: 1}, {Addr: 1, Port: 1}, {Addr: 2, Port: 2}}
	for range 3 {
		for i, p := range places {
			checkOut(t, n, p, 100+i)
		}
	}
	for i := range places {
		checkOut(t, n, places[3-i], 103-i)
	}
	checkLent(t, n, 100, 101, 102, 103)
}

// R30.2
func TestOutSmallestUnused(t *testing.T) {
	n := full(t, 100, 6)
	drop(t, n, 104)
	drop(t, n, 101)
	drop(t, n, 103)
	// what was released last, or is nearest, does not matter
	checkOut(t, n, api.Place{Addr: 1}, 101)
	checkOut(t, n, api.Place{Addr: 2}, 103)
	drop(t, n, 100)
	checkOut(t, n, api.Place{Addr: 3}, 100)
	checkOut(t, n, api.Place{Addr: 4}, 104)
	checkNoOut(t, n, api.Place{Addr: 5}, api.ErrFull)
	drop(t, n, 105)
	checkOut(t, n, api.Place{Addr: 5}, 105)
}

// R30.2
func TestOutForgetsTheReleased(t *testing.T) {
	n := full(t, 20, 4)
	drop(t, n, 21, 22)
	// the endpoint that had 22 gets the smallest unused port, as any other one
	checkOut(t, n, api.Place{Addr: 22, Port: 7}, 21)
	checkOut(t, n, api.Place{Addr: 21, Port: 7}, 22)
	checkIn(t, n, 21, api.Place{Addr: 22, Port: 7})
	checkIn(t, n, 22, api.Place{Addr: 21, Port: 7})
	checkOut(t, n, api.Place{Addr: 22, Port: 7}, 21)
}

// R30.2
func TestOutFull(t *testing.T) {
	for _, many := range []int{1, 2, 5, api.MaxPort} {
		n := full(t, 50, many)
		for range 2 {
			checkNoOut(t, n, api.Place{}, api.ErrFull)
			checkNoOut(t, n, api.Place{Addr: 50, Port: 8}, api.ErrFull)
			checkNoOut(t, n, api.Place{Addr: 49, Port: 7}, api.ErrFull)
			checkNoOut(t, n, api.Place{Addr: 7, Port: 50}, api.ErrFull)
		}
		// those that have a port keep it
		for port := 50; port < 50+many; port++ {
			checkOut(t, n, api.Place{Addr: port, Port: 7}, port)
			checkIn(t, n, port, api.Place{Addr: port, Port: 7})
		}
		checkLent(t, n, upFrom(50, many)...)
		// the refused ones have left nothing behind
		drop(t, n, 50)
		checkOut(t, n, api.Place{Addr: 49, Port: 7}, 50)
	}
}

// R30.2
func TestOutErrors(t *testing.T) {
	empty, used := table(t, 100, 3), full(t, 100, 3)
	for _, bad := range outside {
		for _, p := range []api.Place{{Addr: bad}, {Port: bad}, {Addr: bad, Port: bad}, {Addr: 100, Port: bad}, {Addr: bad, Port: 7}, {Addr: api.MaxAddr, Port: bad}, {Addr: bad, Port: api.MaxAddr}} {
			checkNoOut(t, empty, p, api.ErrRange)
			// ErrRange comes before ErrFull
			checkNoOut(t, used, p, api.ErrRange)
		}
	}
	checkLent(t, empty)
	checkLent(t, used, 100, 101, 102)
	checkOut(t, empty, api.Place{Addr: 1, Port: 1}, 100)
}

// R30.2
func TestOutBounds(t *testing.T) {
	n := table(t, 0, 4)
	places := []api.Place{{Addr: api.MaxAddr, Port: api.MaxAddr}, {Addr: 0, Port: api.MaxAddr}, {Addr: api.MaxAddr, Port: 0}, {}}
	for port, p := range places {
		checkOut(t, n, p, port)
	}
	for port, p := range places {
		checkOut(t, n, p, port)
		checkIn(t, n, port, p)
	}
}

// R30.3
func TestIn(t *testing.T) {
	n := table(t, 100, 3)
	checkNoIn(t, n, 100, 101, 102)
	checkOut(t, n, api.Place{Addr: 8, Port: 9}, 100)
	checkIn(t, n, 100, api.Place{Addr: 8, Port: 9})
	checkNoIn(t, n, 101, 102)
	// the endpoint of zeros is one, too
	checkOut(t, n, api.Place{}, 101)
	checkIn(t, n, 101, api.Place{})
	checkOut(t, n, api.Place{Addr: 9, Port: 8}, 102)
	for range 2 {
		checkIn(t, n, 100, api.Place{Addr: 8, Port: 9})
		checkIn(t, n, 102, api.Place{Addr: 9, Port: 8})
	}
	drop(t, n, 101)
	checkNoIn(t, n, 101)
	checkIn(t, n, 100, api.Place{Addr: 8, Port: 9})
	checkIn(t, n, 102, api.Place{Addr: 9, Port: 8})
}

// R30.3, R30.4: asking for a port that the table does not have lends nothing.
func TestPortsOfNoTable(t *testing.T) {
	n := full(t, 100, 3)
	for _, port := range append([]int{0, 1, 7, 99, 103, api.MaxAddr}, outside...) {
		checkNoIn(t, n, port)
		checkNoDrop(t, n, port)
	}
	checkLent(t, n, 100, 101, 102)
	for port := 100; port < 103; port++ {
		checkIn(t, n, port, api.Place{Addr: port, Port: 7})
	}
	empty := table(t, 100, 3)
	checkNoIn(t, empty, 100)
	checkNoDrop(t, empty, 100)
	checkLent(t, empty)
	checkOut(t, empty, api.Place{Addr: 1}, 100)
}

// R30.4
func TestDrop(t *testing.T) {
	n := full(t, 100, 4)
	drop(t, n, 102)
	checkLent(t, n, 100, 101, 103)
	checkNoIn(t, n, 102)
	checkNoDrop(t, n, 102)
	drop(t, n, 100)
	checkNoDrop(t, n, 100, 102)
	checkLent(t, n, 101, 103)
	// the others keep their ports, although smaller ones are unused
	checkOut(t, n, api.Place{Addr: 103, Port: 7}, 103)
	checkOut(t, n, api.Place{Addr: 101, Port: 7}, 101)
	drop(t, n, 101, 103)
	checkNoDrop(t, n, 100, 101, 102, 103)
	checkLent(t, n)
	for i := range 4 {
		checkOut(t, n, api.Place{Addr: 103 - i, Port: 7}, 100+i)
	}
	checkNoOut(t, n, api.Place{Addr: 99, Port: 7}, api.ErrFull)
}

// R30.4: a port may be lent and released without end.
func TestDropAgain(t *testing.T) {
	n := table(t, 5, 1)
	for i := range 1000 {
		p := api.Place{Addr: i % 3, Port: i % 7}
		checkOut(t, n, p, 5)
		checkNoOut(t, n, api.Place{Addr: 3, Port: 3}, api.ErrFull)
		checkIn(t, n, 5, p)
		drop(t, n, 5)
		checkNoDrop(t, n, 5)
	}
}

// R30.5
func TestLent(t *testing.T) {
	n := table(t, 0, api.MaxPort)
	checkLent(t, n)
	for port := range api.MaxPort {
		checkOut(t, n, api.Place{Addr: 1000 - port, Port: port * port}, port)
		checkLent(t, n, upFrom(0, port+1)...)
	}
	drop(t, n, 29, 0, 5, 17)
	want := slices.DeleteFunc(upFrom(0, api.MaxPort), func(port int) bool { return slices.Contains([]int{0, 5, 17, 29}, port) })
	checkLent(t, n, want...)
	// asking changes nothing
	checkLent(t, n, want...)
	checkOut(t, n, api.Place{Addr: 1, Port: 1}, 0)
	checkLent(t, n, append([]int{0}, want...)...)
}

// model is a table of another design: a list of all ports with what they are lent to.
type model struct {
	low   int
	lent  []bool
	place []api.Place
}

// out is the port of an endpoint, or -1 if there is none for it.
func (m *model) out(p api.Place) int {
	unused := -1
	for i := len(m.lent) - 1; i >= 0; i-- {
		switch {
		case !m.lent[i]:
			unused = i
		case m.place[i] == p:
			return m.low + i
		}
	}
	if unused < 0 {
		return -1
	}
	m.lent[unused], m.place[unused] = true, p
	return m.low + unused
}

// drop reports whether a port was in use.
func (m *model) drop(port int) bool {
	i := port - m.low
	if i < 0 || i >= len(m.lent) || !m.lent[i] {
		return false
	}
	m.lent[i] = false
	return true
}

// check checks that a table has lent what the model has.
func (m *model) check(t *testing.T, n *nat.Table) {
	t.Helper()
	checkNoIn(t, n, m.low-1, m.low+len(m.lent))
	var want []int
	for i, lent := range m.lent {
		if lent {
			want = append(want, m.low+i)
			checkIn(t, n, m.low+i, m.place[i])
		} else {
			checkNoIn(t, n, m.low+i)
		}
	}
	checkLent(t, n, want...)
}

// R30.2, R30.3, R30.4, R30.5
func TestModel(t *testing.T) {
	seed := uint32(30)
	below := func(n int) int {
		seed = seed*1_664_525 + 1_013_904_223
		return int(seed>>8) % n
	}
	for range 300 {
		many := 1 + below(api.MaxPort)
		low := below(api.MaxAddr - many + 2)
		n := table(t, low, many)
		m := &model{low: low, lent: make([]bool, many), place: make([]api.Place, many)}
		bound := 1 + below(8)
		// in some runs more is released than lent, in others the reverse
		often := 2 + below(6)
		for range 200 {
			if below(often) == 0 {
				port := low - 1 + below(many+2)
				if m.drop(port) {
					drop(t, n, port)
				} else {
					checkNoDrop(t, n, port)
				}
			} else {
				p := api.Place{Addr: below(bound), Port: below(bound)}
				if port := m.out(p); port >= 0 {
					checkOut(t, n, p, port)
				} else {
					checkNoOut(t, n, p, api.ErrFull)
				}
			}
			m.check(t, n)
		}
	}
}

// Z2
func TestMemory(t *testing.T) {
	n := full(t, 10, 5)
	one, two := n.Lent(), n.Lent()
	clear(one[:cap(one)])
	if want := upFrom(10, 5); !slices.Equal(two, want) {
		t.Errorf("the result is %v after writing to another one; want %v", two, want)
	}
	checkLent(t, n, 10, 11, 12, 13, 14)
	drop(t, n, 11)
	checkOut(t, n, api.Place{Addr: 1}, 11)
	drop(t, n, 14)
	if want := upFrom(10, 5); !slices.Equal(two, want) {
		t.Errorf("the result is %v after other calls; want %v", two, want)
	}
	_ = append(two[:1], 99)
	checkLent(t, n, 10, 11, 12, 13)
}

// Z1: the methods of what New returns with an error do not panic, and do nothing.
func TestNilTable(t *testing.T) {
	n, _ := nat.New(0, 0)
	for range 2 {
		checkNoOut(t, n, api.Place{Addr: -1}, api.ErrRange)
		checkNoOut(t, n, api.Place{Port: api.MaxAddr + 1}, api.ErrRange)
		checkNoOut(t, n, api.Place{}, api.ErrFull)
		checkNoIn(t, n, -1, 0, 1, 100)
		checkNoDrop(t, n, -1, 0, 1, 100)
		checkLent(t, n)
	}
}
