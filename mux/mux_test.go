package mux_test

import (
	"math"
	"strings"
	"testing"

	"ferryhythe/api"
	"ferryhythe/mux"
	"ferryhythe/plain"
)

// noStreams are numbers of no stream.
var noStreams = []int{math.MinInt, math.MinInt + 1, -1 << 32, -4, -1, api.MaxStream, api.MaxStream + 1, 100, 1 << 32, 1<<32 + 1, math.MaxInt - 1, math.MaxInt}

// noOffsets are numbers that are no offsets.
var noOffsets = []int{math.MinInt, math.MinInt + 1, -1 << 32, -200, -1, api.MaxSize + 1, api.MaxSize + 2, 1 << 32, 1<<32 + 1, math.MaxInt - 1, math.MaxInt}

// put gives a frame to the ends, which must take it.
func put(t *testing.T, e *mux.Ends, n, at int, data string) {
	t.Helper()
	checkPut(t, e, api.Frame{Stream: n, At: at, Data: data}, api.OK)
}

// checkPut gives a frame to the ends, and compares the error.
func checkPut(t *testing.T, e *mux.Ends, f api.Frame, want api.Errno) {
	t.Helper()
	if err := e.Put(f); plain.Told(err) != want {
		t.Fatalf("Put of %d bytes %.20q at %d of stream %d is %v; want %v", len(f.Data), f.Data, f.At, f.Stream, err, want)
	}
}

// checkRead compares what is read of a stream.
func checkRead(t *testing.T, e *mux.Ends, n int, want string) {
	t.Helper()
	if s, err := e.Read(n); s != want || err != nil {
		t.Fatalf("Read(%d) is %q, %v; want %q", n, s, err, want)
	}
}

// checkNoRead checks that there is no such stream to read.
func checkNoRead(t *testing.T, e *mux.Ends, n int) {
	t.Helper()
	if s, err := e.Read(n); s != "" || plain.Told(err) != api.ErrRange {
		t.Fatalf("Read(%d) is %q, %v; want ErrRange", n, s, err)
	}
}

// checkWaits compares how many bytes wait in the first streams; none wait in the others.
func checkWaits(t *testing.T, e *mux.Ends, want ...int) {
	t.Helper()
	for n := range api.MaxStream {
		count := 0
		if n < len(want) {
			count = want[n]
		}
		if got := e.Waits(n); got != count {
			t.Fatalf("Waits(%d) is %d; want %d", n, got, count)
		}
	}
}

// varied is a text in which any two neighbors differ, and which has bytes of every kind.
func varied(long int) string {
	b := make([]byte, long)
	for i := range b {
		b[i] = byte(i * 37)
	}
	return string(b)
}

// R31.1
func TestNew(t *testing.T) {
	e := mux.New()
	if e == nil {
		t.Fatal("New is nil")
	}
	checkWaits(t, e)
	for range 2 {
		for n := range api.MaxStream {
			checkRead(t, e, n, "")
		}
	}
	checkWaits(t, e)
	// all streams begin at 0, and take any bytes
	for n := range api.MaxStream {
		put(t, e, n, 0, varied(api.MaxSize)[n:])
	}
	for n := range api.MaxStream {
		checkRead(t, e, n, varied(api.MaxSize)[n:])
	}
}

// R31.1
func TestNewIsApart(t *testing.T) {
	one, two := mux.New(), mux.New()
	put(t, one, 1, 0, "abc")
	checkWaits(t, two)
	checkRead(t, two, 1, "")
	put(t, two, 1, 0, "xy")
	checkWaits(t, one, 0, 3)
	checkRead(t, one, 1, "abc")
	checkWaits(t, two, 0, 2)
	checkRead(t, two, 1, "xy")
	checkWaits(t, mux.New())
	checkRead(t, mux.New(), 1, "")
}

// R31.2, R31.3
func TestInOrder(t *testing.T) {
	for size := 1; size <= api.MaxSize; size++ {
		text := varied(api.MaxSize)
		e := mux.New()
		for at := 0; at < len(text); at += size {
			piece := text[at:min(at+size, len(text))]
			put(t, e, 2, at, piece)
			checkWaits(t, e, 0, 0, len(piece))
			checkRead(t, e, 2, piece)
			checkWaits(t, e)
			checkRead(t, e, 2, "")
		}
	}
}

// R31.2, R31.3: nothing can be read before the first bytes come.
func TestBackwards(t *testing.T) {
	text := varied(api.MaxSize)
	e := mux.New()
	for at := len(text) - 1; at > 0; at-- {
		put(t, e, 3, at, text[at:at+1])
		checkWaits(t, e, 0, 0, 0, len(text)-at)
		checkRead(t, e, 3, "")
	}
	put(t, e, 3, 0, text[:1])
	checkWaits(t, e, 0, 0, 0, len(text))
	checkRead(t, e, 3, text)
	checkWaits(t, e)
}

// R31.2, R31.3, R31.4
func TestGaps(t *testing.T) {
	e := mux.New()
	put(t, e, 0, 2, "cd")
	put(t, e, 0, 6, "gh")
	checkWaits(t, e, 4)
	checkRead(t, e, 0, "")
	checkWaits(t, e, 4)
	put(t, e, 0, 0, "a")
	checkWaits(t, e, 5)
	// it is read up to the first gap only, but no less
	checkRead(t, e, 0, "a")
	checkWaits(t, e, 4)
	put(t, e, 0, 1, "b")
	checkWaits(t, e, 5)
	checkRead(t, e, 0, "bcd")
	checkWaits(t, e, 2)
	put(t, e, 0, 5, "f")
	checkRead(t, e, 0, "")
	checkWaits(t, e, 3)
	put(t, e, 0, 4, "e")
	checkRead(t, e, 0, "efgh")
	checkWaits(t, e)
	checkRead(t, e, 0, "")
}

// R31.2: bytes may come more than once, before they are read and after, and count once.
func TestAgain(t *testing.T) {
	e := mux.New()
	for range 3 {
		put(t, e, 1, 2, "cde")
		checkWaits(t, e, 0, 3)
	}
	put(t, e, 1, 3, "d")
	put(t, e, 1, 1, "bc")
	checkWaits(t, e, 0, 4)
	put(t, e, 1, 4, "ef")
	checkWaits(t, e, 0, 5)
	put(t, e, 1, 0, "abcdefg")
	checkWaits(t, e, 0, 7)
	checkRead(t, e, 1, "abcdefg")
	for range 2 {
		put(t, e, 1, 0, "abcdefg")
		put(t, e, 1, 2, "cde")
		checkWaits(t, e)
		checkRead(t, e, 1, "")
	}
	// only what is new waits
	put(t, e, 1, 5, "fghi")
	checkWaits(t, e, 0, 2)
	checkRead(t, e, 1, "hi")
	put(t, e, 1, 0, "abcdefghijk")
	checkRead(t, e, 1, "jk")
}

// R31.2: a frame that goes across a gap fills it, and keeps what is around it.
func TestFill(t *testing.T) {
	e := mux.New()
	put(t, e, 0, 0, "ab")
	put(t, e, 0, 4, "ef")
	put(t, e, 0, 8, "ij")
	put(t, e, 0, 1, "bcdefghi")
	checkWaits(t, e, 10)
	checkRead(t, e, 0, "abcdefghij")
}

// R31.2
func TestNoBytes(t *testing.T) {
	e := mux.New()
	for n := range api.MaxStream {
		for at := 0; at <= api.MaxSize; at++ {
			put(t, e, n, at, "")
		}
		checkRead(t, e, n, "")
	}
	checkWaits(t, e)
	put(t, e, 0, 0, "ab")
	put(t, e, 0, 1, "")
	checkRead(t, e, 0, "ab")
	put(t, e, 0, 1, "")
	checkRead(t, e, 0, "")
	checkWaits(t, e)
}

// R31.2: every byte is as good as another, the zero byte too.
func TestEveryByte(t *testing.T) {
	for first := range 256 {
		e := mux.New()
		put(t, e, 0, 1, string([]byte{byte(first)}))
		checkWaits(t, e, 1)
		for second := range 256 {
			want := api.ErrClash
			if first == second {
				want = api.OK
			}
			checkPut(t, e, api.Frame{At: 1, Data: string([]byte{byte(second)})}, want)
		}
		put(t, e, 0, 0, "\x00")
		checkWaits(t, e, 2)
		checkRead(t, e, 0, string([]byte{0, byte(first)}))
	}
}

// R31.2, R31.3, R31.4: what comes for one stream is nothing to the others.
func TestStreamsAreApart(t *testing.T) {
	e := mux.New()
	words := []string{"north", "east", "southwest", "up"}
	for n, word := range words {
		put(t, e, n, 1, word[1:])
	}
	checkWaits(t, e, 4, 3, 8, 1)
	put(t, e, 2, 0, "s")
	checkRead(t, e, 0, "")
	checkRead(t, e, 3, "")
	checkRead(t, e, 2, "southwest")
	checkWaits(t, e, 4, 3, 0, 1)
	// a clash is one of the stream, not of the others
	checkPut(t, e, api.Frame{Stream: 1, Data: "xx"}, api.ErrClash)
	put(t, e, 3, 0, "u")
	put(t, e, 0, 0, "n")
	checkRead(t, e, 3, "up")
	checkWaits(t, e, 5, 3)
	checkRead(t, e, 1, "")
	checkRead(t, e, 0, "north")
	put(t, e, 1, 0, "e")
	checkRead(t, e, 1, "east")
	checkWaits(t, e)
}

// R31.2
func TestPutAtTheEnd(t *testing.T) {
	text := varied(api.MaxSize)
	for at := 0; at <= api.MaxSize; at++ {
		e := mux.New()
		for n := range api.MaxStream {
			put(t, e, n, at, text[at:])
			checkPut(t, e, api.Frame{Stream: n, At: at, Data: text[at:] + "x"}, api.ErrFull)
			if got := e.Waits(n); got != api.MaxSize-at {
				t.Fatalf("Waits(%d) is %d; want %d", n, got, api.MaxSize-at)
			}
			put(t, e, n, 0, text[:at])
			checkRead(t, e, n, text)
			// nothing more can come
			checkRead(t, e, n, "")
			checkPut(t, e, api.Frame{Stream: n, At: api.MaxSize, Data: "x"}, api.ErrFull)
			checkPut(t, e, api.Frame{Stream: n, At: api.MaxSize + 1}, api.ErrRange)
		}
		checkWaits(t, e)
	}
}

// R31.2: ErrRange comes before ErrFull and ErrClash.
func TestPutErrRange(t *testing.T) {
	e := mux.New()
	put(t, e, 0, 0, "abc")
	for _, data := range []string{"", "a", "x", strings.Repeat("x", api.MaxSize), strings.Repeat("x", api.MaxSize+1), strings.Repeat("x", 100_000)} {
		for _, n := range noStreams {
			for _, at := range []int{0, 1, api.MaxSize} {
				checkPut(t, e, api.Frame{Stream: n, At: at, Data: data}, api.ErrRange)
			}
			for _, at := range noOffsets {
				checkPut(t, e, api.Frame{Stream: n, At: at, Data: data}, api.ErrRange)
			}
		}
		for n := range api.MaxStream {
			for _, at := range noOffsets {
				checkPut(t, e, api.Frame{Stream: n, At: at, Data: data}, api.ErrRange)
			}
		}
	}
	checkWaits(t, e, 3)
	checkRead(t, e, 0, "abc")
}

// R31.2: ErrFull comes before ErrClash.
func TestPutErrFull(t *testing.T) {
	e := mux.New()
	put(t, e, 0, 0, "abc")
	put(t, e, 0, api.MaxSize-1, "z")
	for at := 0; at <= api.MaxSize; at++ {
		for _, more := range []int{1, 2, 200, 1 << 16} {
			for _, letter := range []string{"a", "x", "z"} {
				data := strings.Repeat(letter, api.MaxSize-at+more)
				checkPut(t, e, api.Frame{At: at, Data: data}, api.ErrFull)
				checkPut(t, e, api.Frame{Stream: 3, At: at, Data: data}, api.ErrFull)
			}
		}
	}
	// nothing of the frames is there
	checkWaits(t, e, 4)
	checkRead(t, e, 0, "abc")
	checkRead(t, e, 3, "")
	put(t, e, 3, 0, varied(api.MaxSize))
}

// R31.2: any byte of a frame may clash, and nothing of the frame is received then.
func TestPutErrClash(t *testing.T) {
	text := varied(20)
	for known := range text {
		for from := 0; from <= known; from++ {
			for to := known + 1; to <= len(text); to++ {
				e := mux.New()
				put(t, e, 1, known, "\xff")
				checkPut(t, e, api.Frame{Stream: 1, At: from, Data: text[from:to]}, api.ErrClash)
				checkWaits(t, e, 0, 1)
				// other bytes than the refused ones can come
				fill := strings.Repeat("-", known) + "\xff" + strings.Repeat("-", len(text)-known-1)
				put(t, e, 1, 0, fill)
				checkRead(t, e, 1, fill)
			}
		}
	}
}

// R31.2: neighbors of received bytes clash with nothing.
func TestPutBesides(t *testing.T) {
	e := mux.New()
	put(t, e, 0, 5, "xyz")
	put(t, e, 0, 0, "abcde")
	put(t, e, 0, 8, "fgh")
	checkWaits(t, e, 11)
	checkRead(t, e, 0, "abcdexyzfgh")
}

// R31.2: bytes that were read were received before, too.
func TestPutErrClashAfterRead(t *testing.T) {
	e := mux.New()
	put(t, e, 2, 0, "abc")
	checkRead(t, e, 2, "abc")
	for range 2 {
		checkPut(t, e, api.Frame{Stream: 2, Data: "x"}, api.ErrClash)
		checkPut(t, e, api.Frame{Stream: 2, Data: "abx"}, api.ErrClash)
		checkPut(t, e, api.Frame{Stream: 2, At: 2, Data: "xd"}, api.ErrClash)
		checkPut(t, e, api.Frame{Stream: 2, Data: "abxdef"}, api.ErrClash)
		checkWaits(t, e)
		checkRead(t, e, 2, "")
	}
	put(t, e, 2, 2, "cD")
	checkRead(t, e, 2, "D")
	checkPut(t, e, api.Frame{Stream: 2, At: 3, Data: "d"}, api.ErrClash)
	// a refused frame, too, is not received: its bytes clash with nothing
	put(t, e, 2, 4, "EF")
	checkRead(t, e, 2, "EF")
}

// R31.3, R31.4
func TestNoStream(t *testing.T) {
	e := mux.New()
	for n := range api.MaxStream {
		put(t, e, n, 0, "abc")
	}
	for _, n := range noStreams {
		checkNoRead(t, e, n)
		if got := e.Waits(n); got != 0 {
			t.Errorf("Waits(%d) is %d; want 0", n, got)
		}
	}
	checkWaits(t, e, 3, 3, 3, 3)
	for n := range api.MaxStream {
		checkRead(t, e, n, "abc")
	}
}

// R31.4: asking changes nothing.
func TestWaits(t *testing.T) {
	e := mux.New()
	put(t, e, 0, 0, "ab")
	put(t, e, 0, 3, "d")
	put(t, e, 3, 199, "z")
	for range 3 {
		checkWaits(t, e, 3, 0, 0, 1)
	}
	checkRead(t, e, 0, "ab")
	for range 3 {
		checkWaits(t, e, 1, 0, 0, 1)
	}
	checkRead(t, e, 0, "")
}

// model has, instead of the bytes, the frames that were taken.
type model struct {
	taken [api.MaxStream][]api.Frame
	read  [api.MaxStream]int
}

// at is the byte at an offset of a stream, or -1 if it was not received.
func (m *model) at(n, offset int) int {
	for _, f := range m.taken[n] {
		if i := offset - f.At; i >= 0 && i < len(f.Data) {
			return int(f.Data[i])
		}
	}
	return -1
}

// put takes a frame, if nothing is wrong with it.
func (m *model) put(f api.Frame) api.Errno {
	switch {
	case f.Stream < 0 || f.Stream > 3 || f.At < 0 || f.At > 200:
		return api.ErrRange
	case f.At+len(f.Data) > 200:
		return api.ErrFull
	}
	for i := range len(f.Data) {
		if b := m.at(f.Stream, f.At+i); b >= 0 && b != int(f.Data[i]) {
			return api.ErrClash
		}
	}
	m.taken[f.Stream] = append(m.taken[f.Stream], f)
	return api.OK
}

// take is what can be read of a stream.
func (m *model) take(n int) string {
	var text strings.Builder
	for m.at(n, m.read[n]) >= 0 {
		text.WriteByte(byte(m.at(n, m.read[n])))
		m.read[n]++
	}
	return text.String()
}

// waits counts what is not read of every stream.
func (m *model) waits() []int {
	l := make([]int, api.MaxStream)
	for n := range l {
		for offset := m.read[n]; offset < 200; offset++ {
			if m.at(n, offset) >= 0 {
				l[n]++
			}
		}
	}
	return l
}

// R31.2, R31.3, R31.4
func TestModel(t *testing.T) {
	seed := uint32(31)
	below := func(n int) int {
		seed = seed*1_664_525 + 1_013_904_223
		return int(seed>>8) % n
	}
	// some frames go beyond the end
	text := varied(2 * api.MaxSize)
	for range 300 {
		e, m := mux.New(), &model{}
		// in some runs the streams have all that is before the last bytes
		low, far := 0, 1+below(30)
		if below(4) == 0 {
			low = api.MaxSize - below(40)
		}
		for n := range api.MaxStream {
			f := api.Frame{Stream: n, Data: text[:low]}
			checkPut(t, e, f, m.put(f))
		}
		for range api.MaxFrames {
			at := low + below(far)
			data := []byte(text[at : at+below(far+1)])
			if len(data) > 0 && below(5) == 0 {
				data[below(len(data))] ^= 1
			}
			f := api.Frame{Stream: below(api.MaxStream + 1), At: at, Data: string(data)}
			checkPut(t, e, f, m.put(f))
			checkWaits(t, e, m.waits()...)
			if below(3) == 0 {
				n := below(api.MaxStream)
				checkRead(t, e, n, m.take(n))
				checkWaits(t, e, m.waits()...)
			}
		}
		for n := range api.MaxStream {
			checkRead(t, e, n, m.take(n))
		}
	}
}

// R31.2, R31.3, R31.4: all runs of three short frames of two letters, with a Read behind each or not.
func TestFewFrames(t *testing.T) {
	var frames []api.Frame
	for at := range 3 {
		for _, data := range []string{"", "a", "b", "ab", "ba", "aaa"} {
			frames = append(frames, api.Frame{At: at, Data: data})
		}
	}
	for run := range len(frames) * len(frames) * len(frames) * 8 {
		e, m := mux.New(), &model{}
		rest, reads := run/8, run%8
		for i := range 3 {
			f := frames[rest%len(frames)]
			rest /= len(frames)
			checkPut(t, e, f, m.put(f))
			if reads>>i&1 == 1 {
				checkRead(t, e, 0, m.take(0))
			}
			checkWaits(t, e, m.waits()...)
		}
		checkRead(t, e, 0, m.take(0))
	}
}

// Z2: what was read stays as it is.
func TestMemory(t *testing.T) {
	e := mux.New()
	put(t, e, 0, 0, "abc")
	one, _ := e.Read(0)
	put(t, e, 0, 3, "def")
	two, _ := e.Read(0)
	checkPut(t, e, api.Frame{Data: "xyz"}, api.ErrClash)
	if one != "abc" || two != "def" {
		t.Errorf("what was read is %q and %q; want abc and def", one, two)
	}
}
