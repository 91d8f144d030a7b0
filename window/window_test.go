package window_test

import (
	"math"
	"testing"

	"ferryhythe/api"
	"ferryhythe/plain"
	"ferryhythe/window"
)

// outside are numbers that are no sizes.
var outside = []int{-1, -2, -100, 101, 102, 200, 1 << 20, 1<<32 + 1, math.MinInt, math.MinInt + 1, math.MaxInt}

// pipe is a new pipe.
func pipe(t *testing.T, room int) *window.Pipe {
	t.Helper()
	p, err := window.New(room)
	if err != nil || p == nil {
		t.Fatalf("New(%d) is %v, %v; want a pipe", room, p, err)
	}
	return p
}

// waits compares what Waits returns with what it should.
func waits(t *testing.T, p *window.Pipe, buffered, credit int) {
	t.Helper()
	if w, m := p.Waits(); w != buffered || m != credit {
		t.Fatalf("Waits is %d, %d; want %d, %d", w, m, buffered, credit)
	}
}

// send sends so much, and compares the error.
func send(t *testing.T, p *window.Pipe, n int, want api.Errno) {
	t.Helper()
	if err := p.Send(n); plain.Told(err) != want {
		t.Fatalf("Send(%d) is %v; want %v", n, err, want)
	}
}

// eat eats so much, and compares the error.
func eat(t *testing.T, p *window.Pipe, n int, want api.Errno) {
	t.Helper()
	if err := p.Eat(n); plain.Told(err) != want {
		t.Fatalf("Eat(%d) is %v; want %v", n, err, want)
	}
}

// grant compares what Grant returns with what it should.
func grant(t *testing.T, p *window.Pipe, want int) {
	t.Helper()
	if got := p.Grant(); got != want {
		t.Fatalf("Grant is %d; want %d", got, want)
	}
}

// resize changes the size, and compares the error.
func resize(t *testing.T, p *window.Pipe, room int, want api.Errno) {
	t.Helper()
	if err := p.Resize(room); plain.Told(err) != want {
		t.Fatalf("Resize(%d) is %v; want %v", room, err, want)
	}
}

// R14.1, R14.6: a new pipe has an empty buffer, and credit for all of it, with nothing left to grant.
func TestNew(t *testing.T) {
	for room := 0; room <= api.MaxRoom; room++ {
		p := pipe(t, room)
		waits(t, p, 0, room)
		grant(t, p, 0)
		waits(t, p, 0, room)
	}
}

// R14.1
func TestErrorsOfNew(t *testing.T) {
	for _, room := range outside {
		if p, err := window.New(room); p != nil || plain.Told(err) != api.ErrRange {
			t.Errorf("New(%d) is %v, %v; want nil, ErrRange", room, p, err)
		}
	}
}

// R14.1: every pipe has a buffer of its own.
func TestPipesAreApart(t *testing.T) {
	first, second := pipe(t, 5), pipe(t, 5)
	send(t, first, 3, api.OK)
	resize(t, second, 9, api.OK)
	third := pipe(t, 7)
	waits(t, first, 3, 2)
	waits(t, second, 0, 5)
	waits(t, third, 0, 7)
	grant(t, first, 0)
	grant(t, second, 4)
	grant(t, third, 0)
}

// R14.2: whatever is sent leaves the credit, and is buffered; the credit is the most that can be sent.
func TestSend(t *testing.T) {
	for room := 0; room <= api.MaxRoom; room++ {
		for n := 0; n <= api.MaxRoom; n++ {
			p := pipe(t, room)
			if n > room {
				send(t, p, n, api.ErrFull)
				waits(t, p, 0, room)
				continue
			}
			send(t, p, n, api.OK)
			waits(t, p, n, room-n)
			grant(t, p, 0)
		}
	}
}

// R14.2: sending is bounded by the credit that is left, not by the room in the buffer.
func TestSendAgain(t *testing.T) {
	p := pipe(t, 10)
	send(t, p, 4, api.OK)
	send(t, p, 3, api.OK)
	waits(t, p, 7, 3)
	send(t, p, 4, api.ErrFull)
	eat(t, p, 7, api.OK)
	send(t, p, 4, api.ErrFull)
	send(t, p, 3, api.OK)
	waits(t, p, 3, 0)
	send(t, p, 1, api.ErrFull)
	send(t, p, 0, api.OK)
	waits(t, p, 3, 0)
	resize(t, p, 20, api.OK)
	send(t, p, 1, api.ErrFull)
	grant(t, p, 17)
	send(t, p, 18, api.ErrFull)
	send(t, p, 17, api.OK)
	waits(t, p, 20, 0)
}

// R14.2: a number that is no size comes before one that exceeds the credit, and nothing is sent with an error.
func TestErrorsOfSend(t *testing.T) {
	for _, room := range []int{0, 1, 10, 99, 100} {
		p := pipe(t, room)
		for _, n := range outside {
			send(t, p, n, api.ErrRange)
			waits(t, p, 0, room)
			grant(t, p, 0)
		}
		send(t, p, room, api.OK)
		for _, n := range outside {
			send(t, p, n, api.ErrRange)
		}
		send(t, p, 1, api.ErrFull)
		send(t, p, 100, api.ErrFull)
		waits(t, p, room, 0)
		grant(t, p, 0)
	}
}

// R14.3: whatever is eaten leaves the buffer, and the credit stays; all that is buffered is the most that can be eaten.
func TestEat(t *testing.T) {
	for sent := 0; sent <= api.MaxRoom; sent++ {
		for n := 0; n <= api.MaxRoom; n++ {
			p := pipe(t, api.MaxRoom)
			send(t, p, sent, api.OK)
			if n > sent {
				eat(t, p, n, api.ErrNone)
				waits(t, p, sent, api.MaxRoom-sent)
				grant(t, p, 0)
				continue
			}
			eat(t, p, n, api.OK)
			waits(t, p, sent-n, api.MaxRoom-sent)
			grant(t, p, n)
		}
	}
}

// R14.3
func TestEatAgain(t *testing.T) {
	p := pipe(t, 10)
	send(t, p, 8, api.OK)
	eat(t, p, 3, api.OK)
	eat(t, p, 2, api.OK)
	waits(t, p, 3, 2)
	eat(t, p, 4, api.ErrNone)
	eat(t, p, 3, api.OK)
	waits(t, p, 0, 2)
	eat(t, p, 1, api.ErrNone)
	eat(t, p, 0, api.OK)
	waits(t, p, 0, 2)
}

// R14.3: a number that is no size comes before one that exceeds what is buffered, and nothing is eaten with an error.
func TestErrorsOfEat(t *testing.T) {
	for _, sent := range []int{0, 1, 10, 99, 100} {
		p := pipe(t, api.MaxRoom)
		send(t, p, sent, api.OK)
		for _, n := range outside {
			eat(t, p, n, api.ErrRange)
			waits(t, p, sent, api.MaxRoom-sent)
			grant(t, p, 0)
		}
	}
}

// R14.4: the credit is then all of the room that is left, and only the increase is returned.
func TestGrant(t *testing.T) {
	p := pipe(t, 5)
	send(t, p, 5, api.OK)
	grant(t, p, 0)
	eat(t, p, 2, api.OK)
	waits(t, p, 3, 0)
	grant(t, p, 2)
	waits(t, p, 3, 2)
	grant(t, p, 0)
	send(t, p, 1, api.OK)
	waits(t, p, 4, 1)
	eat(t, p, 1, api.OK)
	eat(t, p, 2, api.OK)
	grant(t, p, 3)
	waits(t, p, 1, 4)
	resize(t, p, 12, api.OK)
	eat(t, p, 1, api.OK)
	grant(t, p, 8)
	waits(t, p, 0, 12)
}

// R14.4, R14.5: a new size shows only at the next grant.
func TestResize(t *testing.T) {
	for room := 0; room <= api.MaxRoom; room++ {
		for larger := room; larger <= api.MaxRoom; larger++ {
			p := pipe(t, room)
			resize(t, p, larger, api.OK)
			waits(t, p, 0, room)
			grant(t, p, larger-room)
			waits(t, p, 0, larger)
		}
	}
}

// R14.5: the size has to be at least the buffered units and the credit together, whatever it was before.
func TestResizeToLess(t *testing.T) {
	for sent := 0; sent <= 20; sent++ {
		for eaten := 0; eaten <= sent; eaten++ {
			for room := 0; room <= 25; room++ {
				p := pipe(t, 20)
				send(t, p, sent, api.OK)
				eat(t, p, eaten, api.OK)
				if room < 20-eaten {
					resize(t, p, room, api.ErrState)
					waits(t, p, sent-eaten, 20-sent)
					grant(t, p, eaten)
					continue
				}
				resize(t, p, room, api.OK)
				waits(t, p, sent-eaten, 20-sent)
				grant(t, p, room-(20-eaten))
				waits(t, p, sent-eaten, room-(sent-eaten))
			}
		}
	}
}

// R14.5: a size that was never granted can be given up again.
func TestResizeBack(t *testing.T) {
	p := pipe(t, 5)
	resize(t, p, 100, api.OK)
	resize(t, p, 4, api.ErrState)
	resize(t, p, 6, api.OK)
	resize(t, p, 5, api.OK)
	grant(t, p, 0)
	resize(t, p, 7, api.OK)
	grant(t, p, 2)
	resize(t, p, 6, api.ErrState)
	send(t, p, 7, api.OK)
	resize(t, p, 6, api.ErrState)
	eat(t, p, 7, api.OK)
	resize(t, p, 0, api.OK)
	waits(t, p, 0, 0)
	grant(t, p, 0)
	send(t, p, 1, api.ErrFull)
}

// R14.5: a number that is no size comes before one that is too small, and the size stays with an error.
func TestErrorsOfResize(t *testing.T) {
	for _, eaten := range []int{0, 1, 5, 10} {
		p := pipe(t, 10)
		send(t, p, 10, api.OK)
		eat(t, p, eaten, api.OK)
		for _, room := range outside {
			resize(t, p, room, api.ErrRange)
			waits(t, p, 10-eaten, 0)
		}
		grant(t, p, eaten)
	}
}

// R14.6: asking changes nothing.
func TestWaitsTwice(t *testing.T) {
	p := pipe(t, 9)
	send(t, p, 6, api.OK)
	eat(t, p, 1, api.OK)
	for range 3 {
		waits(t, p, 5, 3)
	}
	grant(t, p, 1)
	for range 3 {
		waits(t, p, 5, 4)
	}
}

// kind is one of the calls that change a pipe.
type kind int

const (
	sends kind = iota
	eats
	resizes
	grants
	kinds
)

// model numbers all units from the first one on: those before eaten are consumed, those before sent are sent, and those before limit may be sent.
type model struct {
	eaten, sent, limit, room int
}

// result is what a call returns: an increase, or an error.
type result struct {
	increase int
	err      api.Errno
}

// call is what a call should return.
func (m *model) call(which kind, n int) result {
	if which == grants {
		before := m.limit
		m.limit = m.eaten + m.room
		return result{increase: m.limit - before}
	}
	if n < 0 || n > 100 {
		return result{err: api.ErrRange}
	}
	switch which {
	case sends:
		if m.sent+n > m.limit {
			return result{err: api.ErrFull}
		}
		m.sent += n
	case eats:
		if m.eaten+n > m.sent {
			return result{err: api.ErrNone}
		}
		m.eaten += n
	case resizes:
		if m.eaten+n < m.limit {
			return result{err: api.ErrState}
		}
		m.room = n
	}
	return result{}
}

// called is what a call returns.
func called(p *window.Pipe, which kind, n int) result {
	switch which {
	case sends:
		return result{err: plain.Told(p.Send(n))}
	case eats:
		return result{err: plain.Told(p.Eat(n))}
	case resizes:
		return result{err: plain.Told(p.Resize(n))}
	}
	return result{increase: p.Grant()}
}

// step makes a call of a pipe, and compares it with the model.
func step(t *testing.T, p *window.Pipe, m *model, which kind, n int) {
	t.Helper()
	before := *m
	if got, want := called(p, which, n), m.call(which, n); got != want {
		t.Fatalf("call %d with %d in the state %v is %v; want %v", which, n, before, got, want)
	}
	waits(t, p, m.sent-m.eaten, m.limit-m.sent)
}

// R14.1 to R14.6: all rows of five calls with small numbers.
func TestShortRows(t *testing.T) {
	const numbers, length = 5, 5
	// A grant has no number, so it is one more choice.
	choices := int(grants)*numbers + 1
	rows := 1
	for range length {
		rows *= choices
	}
	for row := range rows {
		p, m := pipe(t, 2), &model{limit: 2, room: 2}
		for left, i := row, 0; i < length; left, i = left/choices, i+1 {
			choice := left % choices
			step(t, p, m, kind(choice/numbers), choice%numbers-1)
		}
	}
}

// R14.1 to R14.6: long rows of calls with numbers of all sizes.
func TestLongRows(t *testing.T) {
	seed := uint32(14)
	next := func(below int) int {
		seed = seed*1_664_525 + 1_013_904_223
		return int(seed>>8) % below
	}
	for range 300 {
		room := next(101)
		p, m := pipe(t, room), &model{limit: room, room: room}
		largest := []int{5, 30, 104}[next(3)]
		for range 1000 {
			step(t, p, m, kind(next(int(kinds))), next(largest)-1)
		}
	}
}

// Z1: the methods of what New returns with an error do not panic, and do nothing.
func TestNilPipe(t *testing.T) {
	p, _ := window.New(-1)
	for _, n := range []int{0, 1, 100} {
		send(t, p, n, api.ErrFull)
		eat(t, p, n, api.ErrNone)
		resize(t, p, n, api.ErrState)
	}
	for _, n := range outside {
		send(t, p, n, api.ErrRange)
		eat(t, p, n, api.ErrRange)
		resize(t, p, n, api.ErrRange)
	}
	grant(t, p, 0)
	waits(t, p, 0, 0)
}
