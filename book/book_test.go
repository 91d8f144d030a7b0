package book_test

import (
	"fmt"
	"math"
	"math/big"
	"regexp"
	"slices"
	"strings"
	"testing"

	"ferryhythe/api"
	"ferryhythe/book"
	"ferryhythe/lpm"
	"ferryhythe/plain"
)

// route is a prefix with its next hop.
func route(addr, long, hop int) api.Route {
	return api.Route{To: api.Prefix{Addr: addr, Len: long}, Hop: hop}
}

// prefix is an address with a length.
func prefix(addr, long int) api.Prefix { return api.Prefix{Addr: addr, Len: long} }

// singles are n routes of an address each, at every second address from 2 on, by increasing address.
func singles(n int) []api.Route {
	var l []api.Route
	for i := range n {
		l = append(l, route(2*i+2, 16, i%10))
	}
	return l
}

// set sets routes, which the book must take.
func set(t *testing.T, b *book.Book, routes ...api.Route) {
	t.Helper()
	for _, r := range routes {
		checkSet(t, b, r, api.OK)
	}
}

// drop drops prefixes, which the book must have.
func drop(t *testing.T, b *book.Book, prefixes ...api.Prefix) {
	t.Helper()
	for _, p := range prefixes {
		checkDrop(t, b, p, api.OK)
	}
}

// filled is a new book with the routes, set in their order.
func filled(t *testing.T, routes ...api.Route) *book.Book {
	t.Helper()
	b := book.New()
	set(t, b, routes...)
	return b
}

// fullLog is a book whose log has as many lines as it may, and whose table has only the route 0/0 to the hop 5.
func fullLog(t *testing.T) *book.Book {
	t.Helper()
	b := book.New()
	for i := range api.MaxLog {
		set(t, b, route(0, 0, (i+6)%10))
	}
	return b
}

// checkSet compares the error of Set.
func checkSet(t *testing.T, b *book.Book, r api.Route, want api.Errno) {
	t.Helper()
	if err := b.Set(r); plain.Told(err) != want {
		t.Fatalf("Set(%v) is %v; want %v", r, err, want)
	}
}

// checkDrop compares the error of Drop.
func checkDrop(t *testing.T, b *book.Book, p api.Prefix, want api.Errno) {
	t.Helper()
	if err := b.Drop(p); plain.Told(err) != want {
		t.Fatalf("Drop(%v) is %v; want %v", p, err, want)
	}
}

// checkFind compares what is found of an address.
func checkFind(t *testing.T, b *book.Book, addr, hop, long int, want api.Errno) {
	t.Helper()
	gotHop, gotLong, err := b.Find(addr)
	if gotHop != hop || gotLong != long || plain.Told(err) != want {
		t.Fatalf("Find(%d) is %d, %d, %v; want %d, %d, %v", addr, gotHop, gotLong, err, hop, long, want)
	}
}

// checkRoutes compares the routes of a book.
func checkRoutes(t *testing.T, b *book.Book, want ...api.Route) {
	t.Helper()
	if got := b.Routes(); !slices.Equal(got, want) {
		t.Fatalf("Routes is %v; want %v", got, want)
	}
}

// checkText compares the log of a book with these lines.
func checkText(t *testing.T, b *book.Book, lines ...string) {
	t.Helper()
	want := ""
	for _, line := range lines {
		want += line + "\n"
	}
	if got := b.Text(); got != want {
		t.Fatalf("Text is %q; want %q", got, want)
	}
}

// open opens a log, which must be right and have so many lines.
func open(t *testing.T, text string, lines int) *book.Book {
	t.Helper()
	b, n, err := book.Open(text)
	if b == nil || n != lines || err != nil {
		t.Fatalf("Open(%.60q) is %v, %d, %v; want a book, %d", text, b, n, err, lines)
	}
	return b
}

// checkNoOpen checks what is wrong with a log, and in which line.
func checkNoOpen(t *testing.T, text string, line int, want api.Errno) {
	t.Helper()
	if b, n, err := book.Open(text); b != nil || n != line || plain.Told(err) != want {
		t.Fatalf("Open(%.80q) is %v, %d, %v; want nil, %d, %v", text, b, n, err, line, want)
	}
}

// sum is the checksum of a record: each byte is added once for itself, and once more for every byte before it.
func sum(record string) int {
	total := 0
	for i := range len(record) {
		for _, c := range []byte(record[i:]) {
			total += int(c)
		}
	}
	return total % 9973
}

// sealed is the record with its checksum, without a line feed.
func sealed(record string) string { return fmt.Sprintf("%s %d", record, sum(record)) }

// written is a log with a line for each of the records.
func written(records ...string) string {
	text := ""
	for _, record := range records {
		text += sealed(record) + "\n"
	}
	return text
}

// wrongPrefixes are prefixes with what is wrong with them.
var wrongPrefixes = []struct {
	p   api.Prefix
	err api.Errno
}{
	{prefix(-1, 16), api.ErrRange},
	{prefix(65_536, 16), api.ErrRange},
	{prefix(65_536, 0), api.ErrRange},
	{prefix(math.MinInt, 16), api.ErrRange},
	{prefix(math.MaxInt, 16), api.ErrRange},
	{prefix(0, -1), api.ErrRange},
	{prefix(0, 17), api.ErrRange},
	{prefix(0, math.MinInt), api.ErrRange},
	{prefix(0, math.MaxInt), api.ErrRange},
	{prefix(-1, 15), api.ErrRange},
	{prefix(1, 0), api.ErrShape},
	{prefix(1, 15), api.ErrShape},
	{prefix(0x0080, 8), api.ErrShape},
}

var wrongHops = []int{math.MinInt, -1, 10, 1<<32 + 1, math.MaxInt}

var wrongAddresses = []int{math.MinInt, -65_536, -1, 65_536, 1<<32 + 1, math.MaxInt}

// R32.1
func TestNew(t *testing.T) {
	b := book.New()
	if b == nil {
		t.Fatal("New is nil")
	}
	checkRoutes(t, b)
	checkText(t, b)
	for addr := range api.MaxAddr + 1 {
		checkFind(t, b, addr, 0, 0, api.ErrNone)
	}
	checkDrop(t, b, prefix(0, 0), api.ErrNone)
}

// R32.1: every book has a table and a log of its own.
func TestNewBooksAreApart(t *testing.T) {
	first := filled(t, route(0, 0, 3))
	second := book.New()
	checkRoutes(t, second)
	checkText(t, second)
	set(t, second, route(0, 0, 4))
	drop(t, second, prefix(0, 0))
	checkRoutes(t, first, route(0, 0, 3))
	checkText(t, first, "s 0 0 3 1240")
	checkRoutes(t, second)
	checkText(t, second, "s 0 0 4 1247", "d 0 0 676")
	checkText(t, book.New())
}

// R32.2
func TestSet(t *testing.T) {
	b := book.New()
	set(t, b, route(8, 13, 0))
	checkRoutes(t, b, route(8, 13, 0))
	set(t, b, route(8, 13, 9))
	checkRoutes(t, b, route(8, 13, 9))
	set(t, b, route(65_535, 16, 2), route(0, 0, 1), route(8, 16, 5))
	checkRoutes(t, b, route(0, 0, 1), route(8, 13, 9), route(8, 16, 5), route(65_535, 16, 2))
	set(t, b, route(8, 13, 4))
	checkRoutes(t, b, route(0, 0, 1), route(8, 13, 4), route(8, 16, 5), route(65_535, 16, 2))
	checkFind(t, b, 9, 4, 13, api.OK)
}

// R32.2: all that lpm.Table refuses, in its order, is refused, and leaves neither a route nor a line.
func TestErrorsOfSet(t *testing.T) {
	for _, count := range []int{0, 2, api.MaxRoutes} {
		routes := singles(count)
		b := filled(t, routes...)
		text := b.Text()
		for _, c := range wrongPrefixes {
			for _, hop := range append([]int{0, 9}, wrongHops...) {
				checkSet(t, b, api.Route{To: c.p, Hop: hop}, c.err)
			}
		}
		for _, hop := range wrongHops {
			// These prefixes are new or, if there are routes, not.
			checkSet(t, b, route(0, 0, hop), api.ErrRange)
			checkSet(t, b, route(4, 16, hop), api.ErrRange)
		}
		checkRoutes(t, b, routes...)
		if b.Text() != text {
			t.Errorf("refused calls of Set leave the lines %q", b.Text())
		}
	}
}

// R32.2: only new prefixes are too many for the table.
func TestSetOfFullTable(t *testing.T) {
	routes := singles(api.MaxRoutes)
	b := filled(t, routes...)
	text := b.Text()
	checkSet(t, b, route(0, 0, 0), api.ErrFull)
	checkSet(t, b, route(3, 16, 2), api.ErrFull)
	checkRoutes(t, b, routes...)
	if b.Text() != text {
		t.Errorf("ErrFull leaves the lines %q; want %q", b.Text(), text)
	}
	routes[5].Hop = 9
	set(t, b, routes[5])
	checkRoutes(t, b, routes...)
	drop(t, b, prefix(2, 16))
	set(t, b, route(0, 0, 7))
	checkRoutes(t, b, append([]api.Route{route(0, 0, 7)}, routes[1:]...)...)
	if got, want := b.Text(), text+written("s 12 16 9", "d 2 16", "s 0 0 7"); got != want {
		t.Errorf("Text is %q; want %q", got, want)
	}
}

// R32.2: the log takes MaxLog lines; then it is full, whatever else is wrong.
func TestSetOfFullLog(t *testing.T) {
	b := fullLog(t)
	text := b.Text()
	if got := strings.Count(text, "\n"); got != 60 {
		t.Fatalf("the log has %d lines; want 60", got)
	}
	for range 2 {
		for _, r := range []api.Route{route(0, 0, 5), route(0, 0, 6), route(4, 16, 1)} {
			checkSet(t, b, r, api.ErrFull)
		}
		for _, c := range wrongPrefixes {
			checkSet(t, b, api.Route{To: c.p}, api.ErrFull)
		}
		for _, hop := range wrongHops {
			checkSet(t, b, route(0, 0, hop), api.ErrFull)
		}
	}
	checkRoutes(t, b, route(0, 0, 5))
	checkFind(t, b, 4, 5, 0, api.OK)
	if b.Text() != text {
		t.Errorf("calls of Set with a full log change its text to %q", b.Text())
	}
}

// R32.2, R32.3: refused calls take no room in the log.
func TestRefusedCallsTakeNoRoom(t *testing.T) {
	b := book.New()
	for i := range api.MaxLog {
		for range 3 {
			checkSet(t, b, route(1, 0, 0), api.ErrShape)
			checkSet(t, b, route(0, 0, 10), api.ErrRange)
			checkDrop(t, b, prefix(2, 16), api.ErrNone)
			checkDrop(t, b, prefix(-1, 16), api.ErrRange)
		}
		set(t, b, route(0, 0, i%10))
	}
	checkSet(t, b, route(0, 0, 0), api.ErrFull)
	checkDrop(t, b, prefix(0, 0), api.ErrFull)
}

// R32.3
func TestDrop(t *testing.T) {
	all := []api.Route{route(0, 0, 1), route(8, 13, 4), route(8, 16, 5), route(65_535, 16, 2)}
	for i, r := range all {
		b := filled(t, all...)
		drop(t, b, r.To)
		checkRoutes(t, b, slices.Delete(slices.Clone(all), i, i+1)...)
		checkDrop(t, b, r.To, api.ErrNone)
		set(t, b, r)
		checkRoutes(t, b, all...)
	}
	b := filled(t, all...)
	checkFind(t, b, 8, 5, 16, api.OK)
	drop(t, b, prefix(8, 16))
	checkFind(t, b, 8, 4, 13, api.OK)
	drop(t, b, prefix(8, 13), prefix(65_535, 16))
	checkFind(t, b, 8, 1, 0, api.OK)
	drop(t, b, prefix(0, 0))
	checkFind(t, b, 8, 0, 0, api.ErrNone)
	checkRoutes(t, b)
}

// R32.3: all that lpm.Table refuses, in its order, is refused, and leaves no line.
func TestErrorsOfDrop(t *testing.T) {
	for _, count := range []int{0, 2, api.MaxRoutes} {
		routes := singles(count)
		b := filled(t, routes...)
		text := b.Text()
		for _, c := range wrongPrefixes {
			checkDrop(t, b, c.p, c.err)
		}
		for _, p := range []api.Prefix{prefix(0, 0), prefix(2, 15), prefix(3, 16), prefix(65_535, 16)} {
			checkDrop(t, b, p, api.ErrNone)
		}
		checkRoutes(t, b, routes...)
		if b.Text() != text {
			t.Errorf("refused calls of Drop leave the lines %q", b.Text())
		}
	}
}

// R32.3: with MaxLog lines the log is full, whatever else is wrong; the line before is one of a Drop.
func TestDropOfFullLog(t *testing.T) {
	last := book.New()
	for range api.MaxLog / 2 {
		set(t, last, route(0, 0, 1))
		drop(t, last, prefix(0, 0))
	}
	for _, b := range []*book.Book{fullLog(t), last} {
		routes, text := b.Routes(), b.Text()
		if got := strings.Count(text, "\n"); got != 60 {
			t.Fatalf("the log has %d lines; want 60", got)
		}
		for range 2 {
			checkDrop(t, b, prefix(0, 0), api.ErrFull)
			checkDrop(t, b, prefix(2, 16), api.ErrFull)
			for _, c := range wrongPrefixes {
				checkDrop(t, b, c.p, api.ErrFull)
			}
		}
		checkRoutes(t, b, routes...)
		if b.Text() != text {
			t.Errorf("calls of Drop with a full log change its text to %q", b.Text())
		}
	}
}

// R32.4
func TestFind(t *testing.T) {
	b := filled(t, route(0xb3c1, 16, 6), route(0xb300, 8, 0), route(32_768, 1, 1), route(0xb3c0, 12, 8))
	checkFind(t, b, 0, 0, 0, api.ErrNone)
	checkFind(t, b, 32_767, 0, 0, api.ErrNone)
	checkFind(t, b, 32_768, 1, 1, api.OK)
	checkFind(t, b, 65_535, 1, 1, api.OK)
	checkFind(t, b, 0xb300, 0, 8, api.OK)
	checkFind(t, b, 0xb3c0, 8, 12, api.OK)
	checkFind(t, b, 0xb3c1, 6, 16, api.OK)
	checkFind(t, b, 0xb3c2, 8, 12, api.OK)
	set(t, b, route(0, 0, 3))
	checkFind(t, b, 0, 3, 0, api.OK)
	checkFind(t, b, 0xb3c1, 6, 16, api.OK)
}

// R32.4
func TestErrorsOfFind(t *testing.T) {
	for _, b := range []*book.Book{book.New(), filled(t, route(0, 0, 3)), fullLog(t)} {
		text := b.Text()
		for _, addr := range wrongAddresses {
			checkFind(t, b, addr, 0, 0, api.ErrRange)
		}
		if b.Text() != text {
			t.Errorf("Find changes the log to %q", b.Text())
		}
	}
}

// R32.5
func TestRoutes(t *testing.T) {
	want := []api.Route{route(0, 0, 9), route(0, 1, 3), route(0, 16, 1), route(1, 16, 8), route(2, 15, 2), route(2, 16, 2), route(0x0100, 8, 7), route(32_768, 1, 6), route(32_768, 16, 0), route(65_534, 15, 4), route(65_535, 16, 1)}
	n := len(want) // a prime number, so that every step meets all of them
	for step := 1; step < n; step++ {
		b := book.New()
		for i := range n {
			set(t, b, want[i*step%n])
		}
		checkRoutes(t, b, want...)
	}
}

// R32.6: the lines and their checksums are computed by hand.
func TestText(t *testing.T) {
	b := book.New()
	set(t, b, route(0, 0, 3))
	checkText(t, b, "s 0 0 3 1240")
	set(t, b, route(0, 0, 3))
	checkText(t, b, "s 0 0 3 1240", "s 0 0 3 1240")
	set(t, b, route(65_535, 16, 9))
	checkText(t, b, "s 0 0 3 1240", "s 0 0 3 1240", "s 65535 16 9 3768")
	drop(t, b, prefix(0, 0))
	checkText(t, b, "s 0 0 3 1240", "s 0 0 3 1240", "s 65535 16 9 3768", "d 0 0 676")
	drop(t, b, prefix(65_535, 16))
	checkText(t, b, "s 0 0 3 1240", "s 0 0 3 1240", "s 65535 16 9 3768", "d 0 0 676", "d 65535 16 2717")
	// Asking changes nothing, and what is refused is not in the log.
	checkFind(t, b, 0, 0, 0, api.ErrNone)
	checkDrop(t, b, prefix(0, 0), api.ErrNone)
	checkSet(t, b, route(1, 0, 0), api.ErrShape)
	checkText(t, b, "s 0 0 3 1240", "s 0 0 3 1240", "s 65535 16 9 3768", "d 0 0 676", "d 65535 16 2717")
}

// R32.6: of every length and every hop.
func TestTextOfAllPrefixes(t *testing.T) {
	for long := range api.MaxLen + 1 {
		b := book.New()
		var lines []string
		for hop := range api.MaxHop + 1 {
			addr := 0xb3c1 >> (16 - long) << (16 - long)
			set(t, b, route(addr, long, hop))
			drop(t, b, prefix(addr, long))
			lines = append(lines, sealed(fmt.Sprintf("s %d %d %d", addr, long, hop)), sealed(fmt.Sprintf("d %d %d", addr, long)))
		}
		checkText(t, b, lines...)
	}
}

// R32.6: what was returned stays as it is.
func TestTextStays(t *testing.T) {
	b := filled(t, route(0, 0, 3))
	text := b.Text()
	set(t, b, route(0, 0, 4))
	if text != "s 0 0 3 1240\n" {
		t.Errorf("the text becomes %q", text)
	}
}

// R32.7
func TestOpen(t *testing.T) {
	b := open(t, "", 0)
	checkRoutes(t, b)
	checkText(t, b)

	b = open(t, "s 0 0 3 1240\n", 1)
	checkRoutes(t, b, route(0, 0, 3))
	checkText(t, b, "s 0 0 3 1240")

	b = open(t, "s 0 0 3 1240\ns 65535 16 9 3768\nd 0 0 676\n", 3)
	checkRoutes(t, b, route(65_535, 16, 9))
	checkText(t, b, "s 0 0 3 1240", "s 65535 16 9 3768", "d 0 0 676")

	// The book goes on like the one that wrote the log.
	set(t, b, route(0, 0, 3))
	drop(t, b, prefix(65_535, 16))
	checkRoutes(t, b, route(0, 0, 3))
	checkText(t, b, "s 0 0 3 1240", "s 65535 16 9 3768", "d 0 0 676", "s 0 0 3 1240", "d 65535 16 2717")
}

// R32.7: books opened from the same log have nothing in common.
func TestOpenedBooksAreApart(t *testing.T) {
	first, second := open(t, "s 0 0 3 1240\n", 1), open(t, "s 0 0 3 1240\n", 1)
	drop(t, first, prefix(0, 0))
	checkRoutes(t, second, route(0, 0, 3))
	checkText(t, second, "s 0 0 3 1240")
	checkRoutes(t, first)
	checkText(t, first, "s 0 0 3 1240", "d 0 0 676")
}

// R32.7: what is behind the last line feed does not count, whatever it is.
func TestOpenOfIncompleteLine(t *testing.T) {
	whole := "s 0 0 3 1240\nd 0 0 676\n"
	for _, end := range []string{"s", "s 0 0 3 1240", "s 0 0 3 1241", "d 0 0 676", "x", " ", "\r", "\x00", "s 1 0 0 1", strings.Repeat("y", 1_900)} {
		b := open(t, whole+end, 2)
		checkRoutes(t, b)
		checkText(t, b, "s 0 0 3 1240", "d 0 0 676")
		checkText(t, open(t, end, 0))
		checkNoOpen(t, "x\n"+end, 1, api.ErrSyntax)
	}
}

// R32.7: of a log that is cut anywhere, all complete lines are restored.
func TestOpenOfEveryPart(t *testing.T) {
	b := book.New()
	tables := [][]api.Route{nil}
	for i := range api.MaxLog {
		if i%3 == 2 {
			drop(t, b, b.Routes()[i%len(b.Routes())].To)
		} else {
			set(t, b, route(i*4_099%65_536>>(i%5)<<(i%5), 16-i%5, i%10))
		}
		tables = append(tables, b.Routes())
	}
	text := b.Text()
	for size := range len(text) + 1 {
		lines := strings.Count(text[:size], "\n")
		again := open(t, text[:size], lines)
		checkRoutes(t, again, tables[lines]...)
		if got := again.Text(); got != text[:strings.LastIndex(text[:size], "\n")+1] {
			t.Fatalf("Text of %d bytes is %q", size, got)
		}
	}
	checkSet(t, open(t, text, api.MaxLog), route(0, 0, 0), api.ErrFull)
}

// R32.7: ErrFull of the text comes before everything, and counts an incomplete line too.
func TestOpenOfLongText(t *testing.T) {
	for _, size := range []int{2_001, 2_002, 4_000, 100_000} {
		for _, unit := range []string{"x", "\n", " ", "x\n", "s 0 0 3 1240\n"} {
			checkNoOpen(t, strings.Repeat(unit, size)[:size], 0, api.ErrFull)
		}
		checkNoOpen(t, "s 0 0 3 1240\n"+strings.Repeat("x", size-13), 0, api.ErrFull)
	}
	open(t, strings.Repeat("x", 2_000), 0)
	open(t, "s 0 0 3 1240\n"+strings.Repeat("x", 2_000-13), 1)
	checkNoOpen(t, strings.Repeat("\n", 2_000), 1, api.ErrSyntax)
	checkNoOpen(t, strings.Repeat("x", 1_999)+"\n", 1, api.ErrSyntax)
}

// R32.7: with one line more than MaxLog, this line is the one that cannot be applied.
func TestOpenOfTooManyLines(t *testing.T) {
	text := strings.Repeat("s 0 0 3 1240\n", 60)
	open(t, text, 60)
	open(t, text+"s 0 0 3 1240", 60)
	for _, record := range []string{"s 0 0 3", "d 0 0", "d 2 16", "s 1 0 0", "s 0 0 10", "d 99999 0"} {
		checkNoOpen(t, text+written(record), 61, api.ErrFull)
	}
	checkNoOpen(t, text+"s 0 0 3 1240\nx\n", 61, api.ErrFull)
	// The errors of the line itself come first.
	checkNoOpen(t, text+"x\n", 61, api.ErrSyntax)
	checkNoOpen(t, text+"s 0 0 3 1241\n", 61, api.ErrClash)
	checkNoOpen(t, text+written("s 0 0"), 61, api.ErrSyntax)
	checkNoOpen(t, "x\n"+text, 1, api.ErrSyntax)
}

// R32.7: ErrSyntax of lines without a space, or with no number behind the last one, comes before ErrClash.
func TestOpenOfWrongNumbers(t *testing.T) {
	for _, line := range []string{"", "x", "s", "1240", "0", "\r", "s\t0\t0\t3\t1240", "s,0,0,3,1240"} {
		checkNoOpen(t, line+"\n", 1, api.ErrSyntax)
		checkNoOpen(t, "s 0 0 3 1240\n"+line+"\nd 0 0 676\n", 2, api.ErrSyntax)
	}
	for _, word := range []string{
		"", "x", "-1", "-0", "+0", "+1240", "-1240", "00", "01240", "0001240", "1240x", "x1240", "1240.", "1240.0", "1_240", "0x4d8", "1e3", "1240\r", "\t1240", "1240\x00", "\xff", "١٢٤٠",
		"9223372036854775808", "9223372036854776000", "18446744073709551616", "18446744073709552856", "99999999999999999999999",
	} {
		for _, record := range []string{"s 0 0 3", "", "x", "s", "s 1 2", "s 0 0 10", "d 0 0"} {
			checkNoOpen(t, record+" "+word+"\n", 1, api.ErrSyntax)
		}
	}
}

// R32.7: ErrClash of a wrong checksum comes before what is wrong with the record.
func TestOpenOfWrongChecksums(t *testing.T) {
	for _, record := range []string{"s 0 0 3", "d 0 0", "d 65535 16", "", " ", "x", "s", "s 0 0", "s 0 0 3 4", "s 00 0 3", "s 1 0 0", "s 0 0 10", "s  0 0 3"} {
		right := sum(record)
		for _, wrong := range []int{0, 1, right - 1, right + 1, right + 9_973, right + 2*9_973, 9_973, math.MaxInt} {
			if wrong != right && wrong >= 0 {
				checkNoOpen(t, fmt.Sprintf("%s %d\n", record, wrong), 1, api.ErrClash)
				checkNoOpen(t, fmt.Sprintf("s 7 16 1 %d\n%s %d\n", sum("s 7 16 1"), record, wrong), 2, api.ErrClash)
			}
		}
	}
	// Bytes count by where they stand, and only those of the record.
	checkNoOpen(t, fmt.Sprintf("s 0 3 0 %d\n", sum("s 0 0 3")), 1, api.ErrClash)
	checkNoOpen(t, fmt.Sprintf("s 0 0 3 %d\n", sum("s 0 0 3 ")), 1, api.ErrClash)
}

// R32.7: only with the right checksum, ErrSyntax tells that there is no such record.
func TestOpenOfWrongRecords(t *testing.T) {
	for _, record := range []string{
		"", " ", "  ", "x", "s", "d", "s ", "d ", "S 0 0 3", "D 0 0", "x 0 0 3", "x 0 0", "ss 0 0 3", "set 0 0 3", "0 0 3", "0 0 0 3",
		"s 0", "s 0 0", "s 0 0 3 4", "d 0", "d 0 0 3", "d 0 0 3 4", " s 0 0 3", "s  0 0 3", "s 0  0 3", "s 0 0  3", "s 0 0 3 ", " d 0 0", "d  0 0", "d 0  0", "d 0 0 ",
		"s\t0 0 3", "s 0\t0 3", "s 0 0 3\r", "s 0 0 3\x00", "s 0 0 3 1240",
		"s 00 0 3", "s 0 00 3", "s 0 0 03", "d 00 0", "d 0 00", "s -1 0 3", "s 0 -1 3", "s 0 0 -1", "s -0 0 3", "d -1 0", "d 0 -1", "d -0 0", "s +0 0 3", "s 0 +0 3", "s 0 0 +3", "d +0 0", "d 0 +0",
		"s a 0 3", "s 0 a 3", "s 0 0 a", "d a 0", "d 0 a", "s 0x0 0 3", "s 0 0 1_0", "s 0 0 3.0", "s 1e3 16 3",
		"s 9223372036854775808 0 3", "s 0 18446744073709551616 3", "s 0 0 18446744073709551619", "d 9223372036854775808 0", "d 0 18446744073709551616",
		"s 1 0 x", "s 0 0 10 x", "s 99999 0", "d 1", "é", "\xff\xfe",
	} {
		checkNoOpen(t, written(record), 1, api.ErrSyntax)
		checkNoOpen(t, written("s 0 0 3", record, "d 0 0"), 2, api.ErrSyntax)
	}
}

// R32.7: the checksum of a long record is the remainder, not the sum.
func TestOpenOfLongRecords(t *testing.T) {
	for _, record := range []string{strings.Repeat("x", 1_980), strings.Repeat("\xff", 1_980), strings.Repeat("s 0 0 3 ", 200), "s 0 0 " + strings.Repeat("9", 1_900)} {
		whole := 0
		for i, c := range []byte(record) {
			whole += (i + 1) * int(c)
		}
		if whole <= 9_972 {
			t.Fatalf("the sum of %.20q is only %d", record, whole)
		}
		checkNoOpen(t, fmt.Sprintf("%s %d\n", record, whole%9_973), 1, api.ErrSyntax)
		checkNoOpen(t, fmt.Sprintf("%s %d\n", record, whole), 1, api.ErrClash)
	}
}

// R32.7: what the table refuses is the error of the line.
func TestOpenOfRefusedRecords(t *testing.T) {
	cases := []struct {
		record string
		err    api.Errno
	}{
		{"s 65536 16 3", api.ErrRange}, {"s 0 17 3", api.ErrRange}, {"s 0 0 10", api.ErrRange}, {"s 9223372036854775807 16 3", api.ErrRange}, {"s 0 9223372036854775807 3", api.ErrRange}, {"s 0 0 9223372036854775807", api.ErrRange},
		{"s 1 0 3", api.ErrShape}, {"s 1 15 10", api.ErrShape}, {"s 65537 15 3", api.ErrRange},
		{"d 65536 16", api.ErrRange}, {"d 0 17", api.ErrRange}, {"d 9223372036854775807 16", api.ErrRange}, {"d 1 15", api.ErrShape}, {"d 2 16", api.ErrNone}, {"d 0 16", api.ErrNone}, {"d 0 1", api.ErrNone},
	}
	for _, c := range cases {
		checkNoOpen(t, written(c.record), 1, c.err)
		checkNoOpen(t, written("s 0 0 3", "s 4 16 1", c.record, "x"), 3, c.err)
	}
	checkNoOpen(t, written("d 0 0"), 1, api.ErrNone)
	checkNoOpen(t, written("s 0 0 3", "d 0 0", "d 0 0"), 3, api.ErrNone)

	b := filled(t, singles(api.MaxRoutes)...)
	checkNoOpen(t, b.Text()+written("s 0 0 3"), api.MaxRoutes+1, api.ErrFull)
	open(t, b.Text()+written("s 2 16 3"), api.MaxRoutes+1)
	open(t, b.Text()+written("d 2 16", "s 0 0 3"), api.MaxRoutes+2)
}

// R32.7: the first line that is invalid decides, not the first error of the list.
func TestOpenOfFirstInvalidLine(t *testing.T) {
	wrong := []struct {
		line string
		err  api.Errno
	}{
		{"x", api.ErrSyntax}, {"s 0 0 3 1", api.ErrClash}, {sealed("s 0 0"), api.ErrSyntax}, {sealed("s 1 0 0"), api.ErrShape}, {sealed("s 0 17 0"), api.ErrRange}, {sealed("d 7 16"), api.ErrNone},
	}
	for before := range 4 {
		start := strings.Repeat("s 0 0 3 1240\n", before)
		for _, first := range wrong {
			for _, second := range wrong {
				checkNoOpen(t, start+first.line+"\n"+second.line+"\n", before+1, first.err)
			}
		}
	}
}

// The forms of what a log has.
var (
	lineForm   = regexp.MustCompile(`^((?s).*) (0|[1-9][0-9]*)$`)
	recordForm = regexp.MustCompile(`^(?:s (0|[1-9][0-9]*) (0|[1-9][0-9]*) (0|[1-9][0-9]*)|d (0|[1-9][0-9]*) (0|[1-9][0-9]*))$`)
)

// integer is the number of digits, and whether it fits into an int.
func integer(digits string) (int, bool) {
	n, _ := new(big.Int).SetString(digits, 10)
	return int(n.Int64()), n.IsInt64()
}

// integers are the numbers of all words that are not empty, and whether all of them fit into an int.
func integers(words []string) (l []int, fit bool) {
	for _, word := range words {
		if word != "" {
			n, ok := integer(word)
			if !ok {
				return nil, false
			}
			l = append(l, n)
		}
	}
	return l, true
}

// apply does what a line says, by regular expressions, and tells its error.
func apply(table *lpm.Table, line string) api.Errno {
	m := lineForm.FindStringSubmatch(line)
	if m == nil {
		return api.ErrSyntax
	}
	given, ok := integer(m[2])
	if !ok {
		return api.ErrSyntax
	}
	if given != sum(m[1]) {
		return api.ErrClash
	}
	words := recordForm.FindStringSubmatch(m[1])
	if words == nil {
		return api.ErrSyntax
	}
	n, ok := integers(words[1:])
	switch {
	case !ok:
		return api.ErrSyntax
	case len(n) == 3:
		return plain.Told(table.Set(route(n[0], n[1], n[2])))
	}
	return plain.Told(table.Drop(prefix(n[0], n[1])))
}

// checkOpen compares what Open makes of a short text with a table, to which the lines are applied by regular expressions.
func checkOpen(t *testing.T, text string) {
	t.Helper()
	table := lpm.New()
	rest, count := text, 0
	for {
		line, behind, ended := strings.Cut(rest, "\n")
		if !ended {
			break
		}
		count++
		err := apply(table, line)
		if count > api.MaxLog && err != api.ErrSyntax && err != api.ErrClash {
			err = api.ErrFull
		}
		if err != api.OK {
			checkNoOpen(t, text, count, err)
			return
		}
		rest = behind
	}
	b := open(t, text, count)
	checkRoutes(t, b, table.Routes()...)
	if b.Text() != strings.TrimSuffix(text, rest) {
		t.Fatalf("Text is %q; want %q", b.Text(), strings.TrimSuffix(text, rest))
	}
}

// picker picks numbers by a rule without a visible order.
type picker uint32

// below picks a number from 0 to n-1.
func (p *picker) below(n int) int {
	*p = *p*1_664_525 + 1_013_904_223
	return int(*p>>8) % n
}

// R32.7: of a log with any byte changed, put in or left out.
func TestOpenOfChangedBytes(t *testing.T) {
	text := written("s 0 0 3", "s 4 14 7", "d 0 0", "s 65535 16 9", "d 4 14")
	open(t, text, 5)
	for at := range text {
		checkOpen(t, text[:at]+text[at+1:])
		for c := range 256 {
			b := string([]byte{byte(c)})
			checkOpen(t, text[:at]+b+text[at+1:])
			checkOpen(t, text[:at]+b+text[at:])
		}
	}
}

// R32.7: all short records of a few bytes, with the right checksum and others.
func TestOpenOfShortRecords(t *testing.T) {
	alphabet := "sd 01-\r"
	records := []string{""}
	for start, size := 0, 0; size < 6; size++ {
		end := len(records)
		for _, record := range records[start:end] {
			for _, c := range alphabet {
				records = append(records, record+string(c))
			}
		}
		start = end
	}
	for i, record := range records {
		if i%3 == 0 || strings.HasPrefix(record, "d ") || strings.HasPrefix(record, "s ") {
			checkOpen(t, written("s 0 0 3", "s 0 1 3", record))
		}
		checkOpen(t, record+" 0\n")
		checkOpen(t, record+"\n")
	}
}

// randomRecord is a record, most of which are right.
func randomRecord(p *picker) string {
	long := p.below(6)
	addr := p.below(1<<long) << (16 - long)
	switch p.below(60) {
	case 0:
		return fmt.Sprintf("s %d %d %d", addr+1, long, p.below(11))
	case 1:
		return fmt.Sprintf("s %d %d", addr, long)
	case 2:
		return fmt.Sprintf("d %d  %d", addr, long)
	}
	if p.below(8) == 0 {
		return fmt.Sprintf("d %d %d", addr, long)
	}
	return fmt.Sprintf("s %d %d %d", addr, long, p.below(10))
}

// R32.7: logs that follow a rule without a visible order, some of them with a wrong checksum or too many lines.
func TestOpenOfRandomLogs(t *testing.T) {
	p := picker(32)
	for range 4_000 {
		text := ""
		for range p.below(90) {
			record := randomRecord(&p)
			if strings.HasPrefix(record, "d ") && p.below(4) > 0 && !strings.Contains(text, "s"+record[1:]+" ") {
				continue // most of these are not in the table
			}
			check := sum(record)
			if p.below(150) == 0 {
				check += p.below(3)
			}
			text += fmt.Sprintf("%s %d\n", record, check)
		}
		cut := len(text) - min(len(text), p.below(20)*p.below(2))
		checkOpen(t, text[:cut])
	}
}

// R32.2 to R32.7: long rows of calls, against a table of package lpm and the lines that its successes make.
func TestLongRows(t *testing.T) {
	p := picker(7)
	for range 300 {
		b, table := book.New(), lpm.New()
		var records []string
		drops := p.below(5)
		for range 110 {
			long := p.below(19) - 1
			r := route(p.below(40)<<max(0, 16-long), long, p.below(12)-1)
			var got, want error
			record := fmt.Sprintf("s %d %d %d", r.To.Addr, r.To.Len, r.Hop)
			full := len(records) == api.MaxLog
			if p.below(10) < drops {
				if l := table.Routes(); len(l) > 0 && p.below(3) > 0 {
					r = l[p.below(len(l))]
				}
				record = fmt.Sprintf("d %d %d", r.To.Addr, r.To.Len)
				got = b.Drop(r.To)
				if !full {
					want = table.Drop(r.To)
				}
			} else {
				got = b.Set(r)
				if !full {
					want = table.Set(r)
				}
			}
			if full {
				want = api.ErrFull
			} else if want == nil {
				records = append(records, record)
			}
			if plain.Told(got) != plain.Told(want) {
				t.Fatalf("%s is %v; want %v", record, got, want)
			}
			checkRoutes(t, b, table.Routes()...)
			addr := p.below(65_538) - 1
			hop, length, err := table.Find(addr)
			checkFind(t, b, addr, hop, length, plain.Told(err))
			// Sometimes it goes on with what can be restored.
			if p.below(20) == 0 {
				b = open(t, b.Text(), len(records))
			}
		}
		if got, want := b.Text(), written(records...); got != want {
			t.Fatalf("Text is %q; want %q", got, want)
		}
	}
}

// Z1: the book that Open returns with an error is nil, and even that does not panic.
func TestNilBook(t *testing.T) {
	b, _, err := book.Open("x\n")
	if b != nil || err == nil {
		t.Fatalf("Open is %v, %v; want nil and an error", b, err)
	}
	for _, r := range []api.Route{route(0, 0, 3), route(1, 0, 3), route(-1, 16, 10)} {
		checkSet(t, b, r, api.ErrFull)
		checkDrop(t, b, r.To, api.ErrFull)
	}
	for _, addr := range wrongAddresses {
		checkFind(t, b, addr, 0, 0, api.ErrRange)
	}
	checkFind(t, b, 0, 0, 0, api.ErrNone)
	checkRoutes(t, b)
	checkText(t, b)
}

// Z2: what Routes returns has memory of its own, whatever follows.
func TestMemory(t *testing.T) {
	want := []api.Route{route(0, 0, 3), route(5, 16, 4)}
	b := filled(t, want...)
	first, second := b.Routes(), b.Routes()
	_ = append(first, route(1, 16, 1))
	clear(first[:cap(first)])
	checkRoutes(t, b, want...)
	drop(t, b, prefix(0, 0))
	set(t, b, route(5, 16, 7))
	if !slices.Equal(second, want) {
		t.Errorf("Drop and Set make the routes %v; want %v", second, want)
	}
}
