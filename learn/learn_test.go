package learn_test

import (
	"math"
	"slices"
	"testing"

	"ferryhythe/api"
	"ferryhythe/learn"
	"ferryhythe/plain"
)

// outside are numbers that are neither addresses nor ports.
var outside = []int{math.MinInt, math.MinInt + 1, -1 << 32, -api.MaxAddr, -1, api.MaxAddr + 1, 1 << 32, 1<<32 + 1, math.MaxInt}

// frame has a switch process a frame that it must accept.
func frame(t *testing.T, s *learn.Switch, from, to, port int) []int {
	t.Helper()
	out, err := s.Frame(from, to, port)
	if err != nil {
		t.Fatalf("Frame(%d, %d, %d): %v", from, to, port, err)
	}
	return out
}

// checkFrame checks to which ports a frame is sent.
func checkFrame(t *testing.T, s *learn.Switch, from, to, port int, want ...int) {
	t.Helper()
	if out := frame(t, s, from, to, port); !slices.Equal(out, want) {
		t.Fatalf("Frame(%d, %d, %d) is %v; want %v", from, to, port, out, want)
	}
}

// checkNoFrame checks that a frame is refused with ErrRange.
func checkNoFrame(t *testing.T, s *learn.Switch, from, to, port int) {
	t.Helper()
	out, err := s.Frame(from, to, port)
	if len(out) != 0 || plain.Told(err) != api.ErrRange {
		t.Fatalf("Frame(%d, %d, %d) is %v, %v; want ErrRange", from, to, port, out, err)
	}
}

// checkPorts checks the ports of the addresses from 0 on.
func checkPorts(t *testing.T, s *learn.Switch, want ...int) {
	t.Helper()
	for addr, port := range want {
		if got := s.Port(addr); got != port {
			t.Fatalf("Port(%d) is %d; want %d", addr, got, port)
		}
	}
}

// checkDown checks how many addresses a port loses.
func checkDown(t *testing.T, s *learn.Switch, port, want int) {
	t.Helper()
	if got, err := s.Down(port); got != want || err != nil {
		t.Fatalf("Down(%d) is %d, %v; want %d", port, got, err, want)
	}
}

// full is a switch that has heard the addresses from 0 on, in this order, each at the port of its number modulo 4.
func full(t *testing.T) *learn.Switch {
	t.Helper()
	s := learn.New()
	for addr := range api.MaxTable {
		frame(t, s, addr, 100, addr%4)
	}
	return s
}

// R26.1
func TestNew(t *testing.T) {
	s := learn.New()
	for _, addr := range []int{0, 1, 2, 3, 100, api.MaxAddr} {
		if got := s.Port(addr); got != -1 {
			t.Errorf("Port(%d) of a new switch is %d", addr, got)
		}
	}
	for port := range 4 {
		checkDown(t, s, port, 0)
	}
}

// R26.1
func TestNewIsApart(t *testing.T) {
	one, two := learn.New(), learn.New()
	frame(t, one, 1, 2, 3)
	checkPorts(t, two, -1, -1, -1)
	checkFrame(t, two, 2, 1, 0, 1, 2, 3)
	checkPorts(t, one, -1, 3, -1)
	checkDown(t, two, 0, 1)
	checkPorts(t, one, -1, 3, -1)
	three := learn.New()
	checkPorts(t, three, -1, -1, -1)
}

// R26.2
func TestFrameToUnknown(t *testing.T) {
	for port, want := range [][]int{{1, 2, 3}, {0, 2, 3}, {0, 1, 3}, {0, 1, 2}} {
		checkFrame(t, learn.New(), 1, 2, port, want...)
		checkFrame(t, learn.New(), 0, api.MaxAddr, port, want...)
		checkFrame(t, learn.New(), api.MaxAddr, 0, port, want...)
	}
}

// R26.2
func TestFrameToKnown(t *testing.T) {
	for at := range 4 {
		for port := range 4 {
			s := learn.New()
			frame(t, s, 7, 9, at)
			if at == port {
				checkFrame(t, s, 8, 7, port)
			} else {
				checkFrame(t, s, 8, 7, port, at)
			}
		}
	}
}

// R26.2
func TestFrameToItself(t *testing.T) {
	for port := range 4 {
		s := learn.New()
		// the source is in the table before the destination is looked up
		checkFrame(t, s, 5, 5, port)
		checkFrame(t, s, 5, 5, (port+1)%4)
		checkFrame(t, s, 6, 5, port, (port+1)%4)
	}
}

// R26.2
func TestFrameMoves(t *testing.T) {
	s := learn.New()
	frame(t, s, 1, 9, 0)
	frame(t, s, 2, 9, 1)
	checkPorts(t, s, -1, 0, 1)
	// a source that arrives elsewhere has moved
	frame(t, s, 1, 9, 3)
	checkPorts(t, s, -1, 3, 1)
	checkFrame(t, s, 2, 1, 1, 3)
	checkFrame(t, s, 3, 1, 0, 3)
	checkFrame(t, s, 3, 1, 3)
	// and is no longer where it was
	checkDown(t, s, 0, 0)
	checkDown(t, s, 1, 1)
	checkDown(t, s, 3, 2)
}

// R26.2
func TestFrameTeachesNothingOfItsDestination(t *testing.T) {
	s := learn.New()
	checkFrame(t, s, 1, 2, 0, 1, 2, 3)
	checkPorts(t, s, -1, 0, -1)
	checkFrame(t, s, 1, 2, 0, 1, 2, 3)
}

// R26.2
func TestFrameForgetsTheLeastRecent(t *testing.T) {
	s := full(t)
	checkPorts(t, s, 0, 1, 2, 3, 0, 1, 2, 3, -1)
	// the table is full: a new address takes the place of the first one
	frame(t, s, 8, 100, 2)
	checkPorts(t, s, -1, 1, 2, 3, 0, 1, 2, 3, 2, -1)
	frame(t, s, 9, 100, 0)
	checkPorts(t, s, -1, -1, 2, 3, 0, 1, 2, 3, 2, 0)
	frame(t, s, 0, 100, 3)
	checkPorts(t, s, 3, -1, -1, 3, 0, 1, 2, 3, 2, 0)
}

// R26.2
func TestFrameOfKnownForgetsNone(t *testing.T) {
	s := full(t)
	for addr := range api.MaxTable {
		frame(t, s, addr, 100, 1)
	}
	checkPorts(t, s, 1, 1, 1, 1, 1, 1, 1, 1, -1)
	checkDown(t, s, 1, api.MaxTable)
}

// R26.2
func TestFrameMakesRecent(t *testing.T) {
	s := full(t)
	// 0 is heard again, at the same port, and 2 at another one; so 1 and 3 are the least recent ones
	frame(t, s, 0, 100, 0)
	frame(t, s, 2, 100, 1)
	frame(t, s, 10, 100, 3)
	checkPorts(t, s, 0, -1, 1, 3, 0, 1, 2, 3)
	frame(t, s, 11, 100, 3)
	checkPorts(t, s, 0, -1, 1, -1, 0, 1, 2, 3)
}

// R26.2
func TestDestinationIsNotHeard(t *testing.T) {
	s := full(t)
	// 0 is asked for by frame and by Port, but was not heard again
	checkFrame(t, s, 7, 0, 3, 0)
	checkPorts(t, s, 0)
	frame(t, s, 10, 100, 1)
	checkPorts(t, s, -1, 1, 2, 3, 0, 1, 2, 3)
}

// R26.2
func TestFrameToTheForgotten(t *testing.T) {
	// the table has lost the address before the frame to it is sent
	s := full(t)
	checkFrame(t, s, 8, 0, 3, 0, 1, 2)
	checkFrame(t, s, 9, 2, 3, 2)
	checkFrame(t, s, 10, 2, 3, 0, 1, 2)
}

// R26.2
func TestFrameErrors(t *testing.T) {
	s := full(t)
	for _, bad := range outside {
		for port := range 4 {
			checkNoFrame(t, s, bad, 1, port)
			checkNoFrame(t, s, 1, bad, port)
			checkNoFrame(t, s, bad, bad, port)
			checkNoFrame(t, s, 20, bad, port)
			checkNoFrame(t, s, bad, 20, port)
		}
		checkNoFrame(t, s, 1, 2, bad)
		checkNoFrame(t, s, 20, 1, bad)
		checkNoFrame(t, s, bad, bad, bad)
	}
	for _, bad := range []int{4, 5, api.MaxTable, api.MaxPort, api.MaxAddr} {
		checkNoFrame(t, s, 1, 2, bad)
		checkNoFrame(t, s, 20, 1, bad)
	}
	// none of them was heard
	checkPorts(t, s, 0, 1, 2, 3, 0, 1, 2, 3)
	if got := s.Port(20); got != -1 {
		t.Errorf("Port(20) is %d after frames that were refused", got)
	}
	frame(t, s, 8, 100, 2)
	checkPorts(t, s, -1, 1, 2, 3, 0, 1, 2, 3, 2)
}

// R26.2
func TestFrameBounds(t *testing.T) {
	s := learn.New()
	checkFrame(t, s, 0, api.MaxAddr, 0, 1, 2, 3)
	checkFrame(t, s, api.MaxAddr, 0, 3, 0)
	checkFrame(t, s, 0, api.MaxAddr, 0, 3)
	if got := s.Port(api.MaxAddr); got != 3 {
		t.Errorf("Port(%d) is %d; want 3", api.MaxAddr, got)
	}
}

// R26.3
func TestPort(t *testing.T) {
	s := full(t)
	checkPorts(t, s, 0, 1, 2, 3, 0, 1, 2, 3, -1)
	for _, addr := range append([]int{8, 100, api.MaxAddr}, outside...) {
		if got := s.Port(addr); got != -1 {
			t.Errorf("Port(%d) is %d; want -1", addr, got)
		}
	}
	// asking changes nothing
	checkPorts(t, s, 0, 1, 2, 3, 0, 1, 2, 3, -1)
}

// R26.4
func TestDown(t *testing.T) {
	s := full(t)
	checkDown(t, s, 1, 2)
	checkPorts(t, s, 0, -1, 2, 3, 0, -1, 2, 3)
	checkDown(t, s, 1, 0)
	checkDown(t, s, 3, 2)
	checkPorts(t, s, 0, -1, 2, -1, 0, -1, 2, -1)
	checkFrame(t, s, 4, 3, 0, 1, 2, 3)
	checkDown(t, s, 0, 2)
	checkDown(t, s, 2, 2)
	checkPorts(t, s, -1, -1, -1, -1, -1, -1, -1, -1)
	// the port still works
	checkFrame(t, s, 1, 2, 1, 0, 2, 3)
	checkPorts(t, s, -1, 1, -1)
	checkDown(t, s, 1, 1)
}

// R26.4
func TestDownKeepsTheOrder(t *testing.T) {
	s := full(t)
	frame(t, s, 2, 100, 2)
	checkDown(t, s, 0, 2)
	// two new addresses fit in, and then 1, 3, 5, 6, 7 and 2 go in this order
	frame(t, s, 10, 100, 0)
	frame(t, s, 11, 100, 0)
	checkPorts(t, s, -1, 1, 2, 3, -1, 1, 2, 3, -1, -1, 0, 0)
	frame(t, s, 12, 100, 0)
	checkPorts(t, s, -1, -1, 2, 3, -1, 1, 2, 3)
	frame(t, s, 13, 100, 0)
	checkPorts(t, s, -1, -1, 2, -1, -1, 1, 2, 3)
	frame(t, s, 14, 100, 0)
	frame(t, s, 15, 100, 0)
	frame(t, s, 16, 100, 0)
	checkPorts(t, s, -1, -1, 2, -1, -1, -1, -1, -1)
	frame(t, s, 17, 100, 0)
	checkPorts(t, s, -1, -1, -1, -1, -1, -1, -1, -1, -1, -1, 0, 0, 0, 0, 0, 0, 0, 0)
}

// R26.4
func TestDownErrors(t *testing.T) {
	s := full(t)
	for _, bad := range append([]int{4, 5, api.MaxTable, api.MaxPort, api.MaxAddr}, outside...) {
		if got, err := s.Down(bad); got != 0 || plain.Told(err) != api.ErrRange {
			t.Errorf("Down(%d) is %d, %v; want ErrRange", bad, got, err)
		}
	}
	checkPorts(t, s, 0, 1, 2, 3, 0, 1, 2, 3)
}

// model is a switch of another design: every address has its port and the time when it was last heard.
type model struct {
	now  int
	port map[int]int
	time map[int]int
}

func (m *model) frame(from, to, port int) []int {
	m.now++
	m.port[from], m.time[from] = port, m.now
	if len(m.port) > api.MaxTable {
		oldest := from
		for addr, time := range m.time {
			if time < m.time[oldest] {
				oldest = addr
			}
		}
		m.forget(oldest)
	}
	at, known := m.port[to]
	var out []int
	for other := range 4 {
		if other != port && (!known || other == at) {
			out = append(out, other)
		}
	}
	return out
}

func (m *model) forget(addr int) {
	delete(m.port, addr)
	delete(m.time, addr)
}

func (m *model) down(port int) int {
	var gone []int
	for addr, at := range m.port {
		if at == port {
			gone = append(gone, addr)
		}
	}
	for _, addr := range gone {
		m.forget(addr)
	}
	return len(gone)
}

// check checks that a switch knows what the model knows, of the addresses up to a bound.
func (m *model) check(t *testing.T, s *learn.Switch, bound int) {
	t.Helper()
	for addr := range bound {
		want, known := m.port[addr]
		if !known {
			want = -1
		}
		if got := s.Port(addr); got != want {
			t.Fatalf("Port(%d) is %d; want %d", addr, got, want)
		}
	}
}

// R26.2, R26.3, R26.4
func TestModel(t *testing.T) {
	seed := uint32(26)
	below := func(n int) int {
		seed = seed*1_664_525 + 1_013_904_223
		return int(seed>>8) % n
	}
	for range 300 {
		s := learn.New()
		m := &model{port: map[int]int{}, time: map[int]int{}}
		bound := 2 + below(16)
		for range 200 {
			if below(12) == 0 {
				port := below(4)
				checkDown(t, s, port, m.down(port))
			} else {
				from, to, port := below(bound), below(bound), below(4)
				checkFrame(t, s, from, to, port, m.frame(from, to, port)...)
			}
			m.check(t, s, bound)
		}
	}
}

// Z2
func TestMemory(t *testing.T) {
	s := full(t)
	scribble := func(list []int) {
		list = list[:cap(list)]
		for i := range list {
			list[i] = -7
		}
	}
	flood := frame(t, s, 1, 100, 1)
	again := frame(t, s, 1, 100, 1)
	scribble(flood)
	if !slices.Equal(again, []int{0, 2, 3}) {
		t.Errorf("a result became %v when another one was changed", again)
	}
	one := frame(t, s, 1, 2, 1)
	other := frame(t, s, 1, 2, 1)
	scribble(one)
	if !slices.Equal(other, []int{2}) {
		t.Errorf("a result became %v when another one was changed", other)
	}
	checkPorts(t, s, 0, 1, 2, 3, 0, 1, 2, 3)
	checkFrame(t, s, 1, 100, 1, 0, 2, 3)
	checkFrame(t, s, 1, 2, 1, 2)
}
