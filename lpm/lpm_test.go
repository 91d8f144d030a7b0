package lpm_test

import (
	"fmt"
	"maps"
	"math"
	"slices"
	"strings"
	"testing"

	"ferryhythe/api"
	"ferryhythe/lpm"
	"ferryhythe/plain"
)

// route is a prefix with its next hop.
func route(addr, long, hop int) api.Route {
	return api.Route{To: api.Prefix{Addr: addr, Len: long}, Hop: hop}
}

// filled is a new table with the routes, set in their order.
func filled(t *testing.T, routes ...api.Route) *lpm.Table {
	t.Helper()
	table := lpm.New()
	for _, r := range routes {
		if err := table.Set(r); err != nil {
			t.Fatalf("Set(%v) is %v; want nil", r, err)
		}
	}
	return table
}

// singles are n routes of an address each, at every second address from 2 on, by increasing address.
func singles(n int) []api.Route {
	var l []api.Route
	for i := range n {
		l = append(l, route(2*i+2, 16, i%10))
	}
	return l
}

// checkRoutes compares the routes of a table with those it should have.
func checkRoutes(t *testing.T, name string, table *lpm.Table, want []api.Route) {
	t.Helper()
	if got := table.Routes(); !slices.Equal(got, want) {
		t.Errorf("%s: Routes is %v; want %v", name, got, want)
	}
}

// found is what Find should return of an address.
type found struct {
	addr, hop, long int
	err             api.Errno
}

// checkFound compares what Find returns with what it should.
func checkFound(t *testing.T, name string, table *lpm.Table, want ...found) {
	t.Helper()
	for _, f := range want {
		hop, long, err := table.Find(f.addr)
		if hop != f.hop || long != f.long || plain.Told(err) != f.err {
			t.Errorf("%s: Find(%d) is %d, %d, %v; want %d, %d, %v", name, f.addr, hop, long, err, f.hop, f.long, f.err)
		}
	}
}

// wrongPrefixes are prefixes with what is wrong with them.
var wrongPrefixes = []struct {
	name string
	p    api.Prefix
	err  api.Errno
}{
	{"a negative address", api.Prefix{Addr: -1, Len: 16}, api.ErrRange},
	{"too great an address", api.Prefix{Addr: 65_536, Len: 16}, api.ErrRange},
	{"too great an address, no bits", api.Prefix{Addr: 65_536, Len: 0}, api.ErrRange},
	{"the least integer as address", api.Prefix{Addr: math.MinInt, Len: 16}, api.ErrRange},
	{"the greatest integer as address", api.Prefix{Addr: math.MaxInt, Len: 16}, api.ErrRange},
	{"a negative length", api.Prefix{Addr: 0, Len: -1}, api.ErrRange},
	{"too great a length", api.Prefix{Addr: 0, Len: 17}, api.ErrRange},
	{"the least integer as length", api.Prefix{Addr: 0, Len: math.MinInt}, api.ErrRange},
	{"the greatest integer as length", api.Prefix{Addr: 0, Len: math.MaxInt}, api.ErrRange},
	{"a negative address, a 1 behind the bits", api.Prefix{Addr: -1, Len: 15}, api.ErrRange},
	{"a 1 behind no bits", api.Prefix{Addr: 1, Len: 0}, api.ErrShape},
	{"a 1 behind all other bits", api.Prefix{Addr: 1, Len: 15}, api.ErrShape},
	{"a 1 right behind the bits", api.Prefix{Addr: 0x0080, Len: 8}, api.ErrShape},
}

var wrongHops = []int{-1, 10, 1<<32 + 1, math.MinInt, math.MaxInt}

var wrongAddresses = []int{-65_536, -1, 65_536, 1<<32 + 1, math.MinInt, math.MaxInt}

// R8.1
func TestNew(t *testing.T) {
	table := lpm.New()
	if table == nil {
		t.Fatal("New is nil")
	}
	checkRoutes(t, "a new table", table, nil)
	for addr := range api.MaxAddr + 1 {
		checkFound(t, "a new table", table, found{addr: addr, err: api.ErrNone})
	}
	if err := table.Drop(api.Prefix{}); plain.Told(err) != api.ErrNone {
		t.Errorf("Drop of a new table is %v; want ErrNone", err)
	}
}

// R8.1: every table has routes of its own.
func TestNewTablesAreApart(t *testing.T) {
	first := filled(t, route(0, 0, 3))
	second := lpm.New()
	checkRoutes(t, "a table that is new behind another", second, nil)
	if err := second.Set(route(0, 0, 4)); err != nil {
		t.Fatal(err)
	}
	checkFound(t, "the first table", first, found{addr: 5, hop: 3})
	checkFound(t, "the second table", second, found{addr: 5, hop: 4})
	if err := second.Drop(api.Prefix{}); err != nil {
		t.Fatal(err)
	}
	checkRoutes(t, "the first table", first, []api.Route{route(0, 0, 3)})
	checkRoutes(t, "the second table", second, nil)
}

// R8.2
func TestSet(t *testing.T) {
	table := lpm.New()
	steps := []struct {
		r    api.Route
		want []api.Route
	}{
		{route(8, 13, 0), []api.Route{route(8, 13, 0)}},
		{route(8, 13, 9), []api.Route{route(8, 13, 9)}},
		{route(8, 13, 9), []api.Route{route(8, 13, 9)}},
		{route(8, 16, 5), []api.Route{route(8, 13, 9), route(8, 16, 5)}},
		{route(0, 0, 1), []api.Route{route(0, 0, 1), route(8, 13, 9), route(8, 16, 5)}},
		{route(65_535, 16, 2), []api.Route{route(0, 0, 1), route(8, 13, 9), route(8, 16, 5), route(65_535, 16, 2)}},
		{route(8, 13, 4), []api.Route{route(0, 0, 1), route(8, 13, 4), route(8, 16, 5), route(65_535, 16, 2)}},
		{route(8, 14, 4), []api.Route{route(0, 0, 1), route(8, 13, 4), route(8, 14, 4), route(8, 16, 5), route(65_535, 16, 2)}},
	}
	for _, s := range steps {
		if err := table.Set(s.r); err != nil {
			t.Errorf("Set(%v) is %v; want nil", s.r, err)
		}
		checkRoutes(t, fmt.Sprint("after ", s.r), table, s.want)
		last := s.want[len(s.want)-1]
		checkFound(t, fmt.Sprint("after ", s.r), table, found{addr: last.To.Addr, hop: last.Hop, long: last.To.Len})
	}
}

// R8.2: every next hop may be assigned, and to a prefix of every length.
func TestSetOfAllHops(t *testing.T) {
	for long := range api.MaxLen + 1 {
		table := lpm.New()
		addr := 0xb3c1 >> (16 - long) << (16 - long)
		for hop := range api.MaxHop + 1 {
			if err := table.Set(route(addr, long, hop)); err != nil {
				t.Errorf("Set of %d/%d to %d is %v; want nil", addr, long, hop, err)
			}
			checkRoutes(t, "one prefix", table, []api.Route{route(addr, long, hop)})
			checkFound(t, "one prefix", table, found{addr: 0xb3c1, hop: hop, long: long})
		}
	}
}

// R8.2: an error leaves an empty, a small and a full table as it is, and what is wrong with the prefix comes before the hop, and the hop before the number of prefixes.
func TestErrorsOfSet(t *testing.T) {
	type wrong struct {
		r   api.Route
		err api.Errno
	}
	var cases []wrong
	for _, c := range wrongPrefixes {
		for _, hop := range append([]int{0, 9}, wrongHops...) {
			cases = append(cases, wrong{api.Route{To: c.p, Hop: hop}, c.err})
		}
	}
	for _, hop := range wrongHops {
		// These prefixes are new or, in the table of two routes, not.
		cases = append(cases, wrong{route(0, 0, hop), api.ErrRange}, wrong{route(4, 16, hop), api.ErrRange}, wrong{route(65_535, 16, hop), api.ErrRange})
	}
	for _, routes := range [][]api.Route{nil, singles(2), singles(api.MaxRoutes)} {
		table := filled(t, routes...)
		for _, c := range cases {
			if err := table.Set(c.r); plain.Told(err) != c.err {
				t.Errorf("%d routes: Set(%v) is %v; want %v", len(routes), c.r, err, c.err)
			}
			checkRoutes(t, fmt.Sprint("after the error of ", c.r), table, routes)
		}
	}
}

// R8.2: only new prefixes are too many.
func TestSetOfFullTable(t *testing.T) {
	routes := singles(api.MaxRoutes)
	table := filled(t, routes...)
	for _, r := range []api.Route{route(0, 0, 0), route(0, 16, 1), route(2, 15, 1), route(3, 16, 2), route(66, 16, 3), route(65_535, 16, 9)} {
		if err := table.Set(r); plain.Told(err) != api.ErrFull {
			t.Errorf("Set(%v) of a full table is %v; want ErrFull", r, err)
		}
		checkRoutes(t, "a full table", table, routes)
		checkFound(t, "a full table", table, found{addr: 65_535, err: api.ErrNone}, found{addr: 3, err: api.ErrNone})
	}
	for i := range routes {
		routes[i].Hop = 9 - routes[i].Hop
		if err := table.Set(routes[i]); err != nil {
			t.Errorf("Set(%v) of a prefix in a full table is %v; want nil", routes[i], err)
		}
		checkRoutes(t, "a full table", table, routes)
	}
	// A prefix that is gone makes room for one, wherever it stood.
	for i, r := range routes {
		if err := table.Drop(r.To); err != nil {
			t.Fatalf("Drop(%v) is %v; want nil", r.To, err)
		}
		if err := table.Set(route(1001+i, 16, i%10)); err != nil {
			t.Errorf("Set behind Drop of a full table is %v; want nil", err)
		}
		if err := table.Set(route(0, 0, 0)); plain.Told(err) != api.ErrFull {
			t.Errorf("another Set behind Drop of a full table is %v; want ErrFull", err)
		}
	}
	var want []api.Route
	for i := range routes {
		want = append(want, route(1001+i, 16, i%10))
	}
	checkRoutes(t, "a full table, all others", table, want)
}

// R8.2: a table takes the most prefixes, whatever their order, and whichever of them share addresses.
func TestSetOfMostPrefixes(t *testing.T) {
	nested := []api.Route{}
	for long := range api.MaxLen + 1 {
		nested = append(nested, route(0, long, long%10))
	}
	for i := range 15 {
		nested = append(nested, route(i+1, 16, i%10))
	}
	for _, routes := range [][]api.Route{singles(api.MaxRoutes), nested} {
		for step := 1; step < api.MaxRoutes; step += 2 {
			table := lpm.New()
			for i := range api.MaxRoutes {
				r := routes[i*step%api.MaxRoutes]
				if err := table.Set(r); err != nil {
					t.Fatalf("Set(%v), the prefix %d, is %v; want nil", r, i, err)
				}
			}
			checkRoutes(t, "most prefixes", table, routes)
		}
	}
}

// R8.3
func TestDrop(t *testing.T) {
	all := []api.Route{route(0, 0, 1), route(8, 13, 4), route(8, 14, 3), route(8, 16, 5), route(32_768, 1, 7), route(65_535, 16, 2)}
	for i, r := range all {
		table := filled(t, all...)
		if err := table.Drop(r.To); err != nil {
			t.Errorf("Drop(%v) is %v; want nil", r.To, err)
		}
		rest := slices.Delete(slices.Clone(all), i, i+1)
		checkRoutes(t, fmt.Sprint("without ", r), table, rest)
		if err := table.Drop(r.To); plain.Told(err) != api.ErrNone {
			t.Errorf("another Drop(%v) is %v; want ErrNone", r.To, err)
		}
		checkRoutes(t, fmt.Sprint("still without ", r), table, rest)
		if err := table.Set(r); err != nil {
			t.Errorf("Set(%v) behind Drop is %v; want nil", r, err)
		}
		checkRoutes(t, fmt.Sprint("again with ", r), table, all)
	}
	// The next longest prefix tells the hop, as soon as a longer one is gone.
	table := filled(t, all...)
	want := []found{{addr: 8, hop: 5, long: 16}, {addr: 8, hop: 3, long: 14}, {addr: 8, hop: 4, long: 13}, {addr: 8, hop: 1}, {addr: 8, err: api.ErrNone}}
	for i, long := range []int{16, 14, 13, 0} {
		checkFound(t, "before Drop", table, want[i])
		if err := table.Drop(api.Prefix{Addr: want[i].addr * min(long, 1), Len: long}); err != nil {
			t.Errorf("Drop of the length %d is %v; want nil", long, err)
		}
		checkFound(t, "behind Drop", table, want[i+1])
	}
}

// R8.3: of all prefixes of a full table, in several orders.
func TestDropOfFullTable(t *testing.T) {
	for step := 1; step < api.MaxRoutes; step += 2 {
		rest := singles(api.MaxRoutes)
		table := filled(t, rest...)
		for i := range api.MaxRoutes {
			p := api.Prefix{Addr: i*step%api.MaxRoutes*2 + 2, Len: 16}
			if err := table.Drop(p); err != nil {
				t.Fatalf("Drop(%v) is %v; want nil", p, err)
			}
			rest = slices.DeleteFunc(rest, func(r api.Route) bool { return r.To == p })
			checkRoutes(t, fmt.Sprint("without ", p), table, rest)
			checkFound(t, fmt.Sprint("without ", p), table, found{addr: p.Addr, err: api.ErrNone})
		}
	}
}

// R8.3: what is wrong with a prefix comes before that it is not in the table, and an error leaves the table as it is.
func TestErrorsOfDrop(t *testing.T) {
	// Of these prefixes, the table has shorter ones, longer ones, neighbours, or nothing alike.
	others := []api.Prefix{{}, {Addr: 0, Len: 16}, {Addr: 2, Len: 15}, {Addr: 3, Len: 16}, {Addr: 6, Len: 15}, {Addr: 4_096, Len: 5}, {Addr: 4_096, Len: 16}, {Addr: 65_535, Len: 16}}
	some := []api.Route{route(2, 16, 1), route(4, 14, 2), route(4_096, 4, 3), route(32_768, 1, 4)}
	for _, routes := range [][]api.Route{nil, some, singles(api.MaxRoutes)} {
		table := filled(t, routes...)
		for _, c := range wrongPrefixes {
			if err := table.Drop(c.p); plain.Told(err) != c.err {
				t.Errorf("%s: Drop(%v) is %v; want %v", c.name, c.p, err, c.err)
			}
			checkRoutes(t, c.name, table, routes)
		}
		for _, p := range others {
			if err := table.Drop(p); plain.Told(err) != api.ErrNone {
				t.Errorf("%d routes: Drop(%v) is %v; want ErrNone", len(routes), p, err)
			}
			checkRoutes(t, fmt.Sprint("after the error of ", p), table, routes)
		}
	}
}

// R8.4
func TestFind(t *testing.T) {
	chain := []api.Route{route(0, 0, 3), route(32_768, 1, 1), route(0xb300, 8, 0), route(0xb3c0, 12, 8), route(0xb3c1, 16, 6)}
	cases := []struct {
		name   string
		routes []api.Route
		want   []found
	}{
		{"all addresses", []api.Route{route(0, 0, 3)}, []found{{addr: 0, hop: 3}, {addr: 5, hop: 3}, {addr: 65_535, hop: 3}}},
		{"all addresses, hop 0", []api.Route{route(0, 0, 0)}, []found{{addr: 7}}},
		{"one address", []api.Route{route(5, 16, 4)}, []found{{addr: 5, hop: 4, long: 16}, {addr: 4, err: api.ErrNone}, {addr: 6, err: api.ErrNone}}},
		{"one address of all", []api.Route{route(0, 0, 3), route(5, 16, 4)}, []found{{addr: 5, hop: 4, long: 16}, {addr: 4, hop: 3}, {addr: 6, hop: 3}}},
		{"all addresses behind one", []api.Route{route(5, 16, 4), route(0, 0, 3)}, []found{{addr: 5, hop: 4, long: 16}, {addr: 6, hop: 3}}},
		{"a prefix of one bit", []api.Route{route(32_768, 1, 2)}, []found{{addr: 32_767, err: api.ErrNone}, {addr: 32_768, hop: 2, long: 1}, {addr: 65_535, hop: 2, long: 1}}},
		{"the start of another", []api.Route{route(8, 13, 1), route(8, 15, 2)}, []found{{addr: 7, err: api.ErrNone}, {addr: 8, hop: 2, long: 15}, {addr: 9, hop: 2, long: 15}, {addr: 10, hop: 1, long: 13}, {addr: 15, hop: 1, long: 13}, {addr: 16, err: api.ErrNone}}},
		{"the end of another", []api.Route{route(8, 13, 1), route(14, 15, 2)}, []found{{addr: 8, hop: 1, long: 13}, {addr: 13, hop: 1, long: 13}, {addr: 14, hop: 2, long: 15}, {addr: 15, hop: 2, long: 15}, {addr: 16, err: api.ErrNone}}},
		{"a short prefix nearer by than a long one", []api.Route{route(0, 8, 1), route(2, 16, 2)}, []found{{addr: 1, hop: 1, long: 8}, {addr: 2, hop: 2, long: 16}, {addr: 3, hop: 1, long: 8}}},
		{"a long prefix elsewhere", []api.Route{route(0, 1, 1), route(65_534, 16, 2)}, []found{{addr: 1, hop: 1, long: 1}, {addr: 65_534, hop: 2, long: 16}, {addr: 65_535, err: api.ErrNone}}},
		{"the same hop", []api.Route{route(0, 0, 3), route(0, 16, 3)}, []found{{addr: 0, hop: 3, long: 16}, {addr: 1, hop: 3}}},
		{"each within the one before", chain, []found{{addr: 0, hop: 3}, {addr: 32_768, hop: 1, long: 1}, {addr: 0xb300, hop: 0, long: 8}, {addr: 0xb3c0, hop: 8, long: 12}, {addr: 0xb3c1, hop: 6, long: 16}, {addr: 0xb3c2, hop: 8, long: 12}, {addr: 0xb3d0, hop: 0, long: 8}, {addr: 0xb400, hop: 1, long: 1}}},
	}
	for _, c := range cases {
		table := filled(t, c.routes...)
		checkFound(t, c.name, table, c.want...)
		back := slices.Clone(c.routes)
		slices.Reverse(back)
		checkFound(t, c.name+", backwards", filled(t, back...), c.want...)
		// Finding changes nothing.
		checkFound(t, c.name+", again", table, c.want...)
		checkRoutes(t, c.name, table, filled(t, back...).Routes())
	}
}

// R8.4: of a table that has a prefix of every length for an address, each length is found.
func TestFindOfAllLengths(t *testing.T) {
	for _, addr := range []int{0, 0x5555, 0xb3c1, 0xffff} {
		table := lpm.New()
		for long := range api.MaxLen + 1 {
			if err := table.Set(route(addr>>(16-long)<<(16-long), long, long%10)); err != nil {
				t.Fatal(err)
			}
		}
		for long := range api.MaxLen {
			// The address that differs first in the bit behind long bits.
			other := addr ^ 1<<(15-long)
			checkFound(t, "all lengths", table, found{addr: other, hop: long % 10, long: long})
		}
		checkFound(t, "all lengths", table, found{addr: addr, hop: 6, long: 16})
	}
}

// R8.4: what is no address is out of range, also if the table is empty or comprises all addresses.
func TestErrorsOfFind(t *testing.T) {
	for _, routes := range [][]api.Route{nil, {route(0, 0, 3)}, {route(0, 16, 1), route(1, 16, 2), route(65_535, 16, 4)}, singles(api.MaxRoutes)} {
		table := filled(t, routes...)
		for _, addr := range wrongAddresses {
			checkFound(t, fmt.Sprint(len(routes), " routes"), table, found{addr: addr, err: api.ErrRange})
		}
		checkRoutes(t, "after errors of Find", table, routes)
	}
}

// R8.5
func TestRoutes(t *testing.T) {
	want := []api.Route{
		route(0, 0, 9), route(0, 1, 3), route(0, 15, 5), route(0, 16, 1), route(1, 16, 8), route(2, 15, 2), route(2, 16, 2),
		route(0x00ff, 16, 0), route(0x0100, 8, 7), route(32_768, 1, 6), route(32_768, 16, 0), route(65_534, 15, 4), route(65_535, 16, 1),
	}
	n := len(want) // a prime number, so that every step meets all of them
	for step := 1; step < n; step++ {
		for start := range n {
			table := lpm.New()
			for i := range n {
				if err := table.Set(want[(start+i*step)%n]); err != nil {
					t.Fatal(err)
				}
			}
			checkRoutes(t, fmt.Sprint("from ", start, " by ", step), table, want)
		}
	}
}

// model is a table that a map keeps, with prefixes as texts of digits.
type model map[string]int

// digits are the bits of a right prefix.
func digits(p api.Prefix) string { return fmt.Sprintf("%016b", p.Addr)[:p.Len] }

// find is what the longest text gives that an address starts with.
func (m model) find(addr int) found {
	text := fmt.Sprintf("%016b", addr)
	for long := len(text); long >= 0; long-- {
		if hop, ok := m[text[:long]]; ok {
			return found{addr: addr, hop: hop, long: long}
		}
	}
	return found{addr: addr, err: api.ErrNone}
}

// routes are those of the map. Padding with 0 gives the address, so that texts of equal addresses come by their length.
func (m model) routes() []api.Route {
	var l []api.Route
	padded := func(text string) string { return text + strings.Repeat("0", 16-len(text)) }
	keys := slices.SortedFunc(maps.Keys(m), func(a, b string) int {
		return strings.Compare(padded(a)+a, padded(b)+b)
	})
	for _, key := range keys {
		addr := 0
		for _, digit := range padded(key) {
			addr = addr*2 + int(digit-'0')
		}
		l = append(l, route(addr, len(key), m[key]))
	}
	return l
}

// R8.2 to R8.5: every short row of calls over the prefixes of a subtree, against a map.
func TestShortRows(t *testing.T) {
	pool := []api.Prefix{{Addr: 0, Len: 0}, {Addr: 0, Len: 1}, {Addr: 32_768, Len: 1}, {Addr: 0, Len: 2}, {Addr: 16_384, Len: 2}, {Addr: 16_384, Len: 16}}
	const calls = 4
	rows := 1
	for range calls {
		rows *= 2 * len(pool)
	}
	for row := range rows {
		table, m := lpm.New(), model{}
		for step, rest := 0, row; step < calls; step++ {
			p := pool[rest/2%len(pool)]
			if rest%2 == 0 {
				apply(t, table, m, api.Route{To: p, Hop: step}, false)
			} else {
				apply(t, table, m, api.Route{To: p}, true)
			}
			rest /= 2 * len(pool)
		}
		compare(t, table, m, []int{0, 1, 16_383, 16_384, 16_385, 32_767, 32_768, 65_535})
		if t.Failed() {
			t.Fatalf("in the row %d", row)
		}
	}
}

// apply drops or sets a route of a table and of its model, and compares the errors.
func apply(t *testing.T, table *lpm.Table, m model, r api.Route, drop bool) {
	t.Helper()
	want := api.OK
	_, has := m[digits(r.To)]
	if drop {
		if !has {
			want = api.ErrNone
		}
		delete(m, digits(r.To))
		if err := table.Drop(r.To); plain.Told(err) != want {
			t.Errorf("Drop(%v) is %v; want %v", r.To, err, want)
		}
		return
	}
	if !has && len(m) == api.MaxRoutes {
		want = api.ErrFull
	} else {
		m[digits(r.To)] = r.Hop
	}
	if err := table.Set(r); plain.Told(err) != want {
		t.Errorf("Set(%v) is %v; want %v", r, err, want)
	}
}

// compare compares the routes of a table, and what it finds of some addresses, with its model.
func compare(t *testing.T, table *lpm.Table, m model, addresses []int) {
	t.Helper()
	checkRoutes(t, "the model", table, m.routes())
	for _, addr := range addresses {
		checkFound(t, "the model", table, m.find(addr))
	}
}

// R8.2 to R8.5: long rows of calls that follow a rule without a visible order, against a map.
func TestLongRows(t *testing.T) {
	state := uint32(1)
	next := func(n int) int {
		state = state*1_664_525 + 1_013_904_223
		return int(state>>8) % n
	}
	for range 60 {
		table, m := lpm.New(), model{}
		// Few different addresses make prefixes that meet again; more drops keep a table from being full.
		shortest, drops := next(api.MaxLen), 2+next(4)
		for range 150 {
			long := min(api.MaxLen, shortest+next(6))
			p := api.Prefix{Addr: next(min(1<<long, 40)) << (16 - long), Len: long}
			apply(t, table, m, api.Route{To: p, Hop: next(10)}, next(10) < drops)
			var addresses []int
			for _, r := range m.routes() {
				end := r.To.Addr + 1<<(16-r.To.Len) - 1
				addresses = append(addresses, r.To.Addr, end, max(0, r.To.Addr-1), min(65_535, end+1))
			}
			compare(t, table, m, append(addresses, next(65_536)))
		}
		if t.Failed() {
			return
		}
	}
}

// R8.4: of every address, against a map.
func TestFindOfAllAddresses(t *testing.T) {
	table, m := lpm.New(), model{}
	for i := range api.MaxRoutes {
		long := i * 7 % 17
		p := api.Prefix{Addr: i * 40_503 % 65_536 >> (16 - long) << (16 - long), Len: long}
		apply(t, table, m, api.Route{To: p, Hop: i % 10}, false)
	}
	if err := table.Drop(api.Prefix{}); err != nil {
		t.Fatalf("Drop of all addresses is %v; want nil", err)
	}
	delete(m, "")
	for addr := range api.MaxAddr + 1 {
		checkFound(t, "all addresses", table, m.find(addr))
		if t.Failed() {
			return
		}
	}
}

// Z2: what Routes returns has memory of its own, whatever follows.
func TestMemory(t *testing.T) {
	want := []api.Route{route(0, 0, 3), route(5, 16, 4), route(9, 16, 1)}
	table := filled(t, want...)
	first, second := table.Routes(), table.Routes()
	_ = append(first, route(1, 16, 1))
	clear(first)
	if !slices.Equal(second, want) {
		t.Errorf("a change of routes makes other routes %v; want %v", second, want)
	}
	checkRoutes(t, "after a change of its routes", table, want)
	checkFound(t, "after a change of its routes", table, found{addr: 5, hop: 4, long: 16})

	if err := table.Drop(api.Prefix{}); err != nil {
		t.Fatal(err)
	}
	if err := table.Set(route(5, 16, 7)); err != nil {
		t.Fatal(err)
	}
	if !slices.Equal(second, want) {
		t.Errorf("Drop and Set make the routes %v; want %v", second, want)
	}
}

// Z2: what the spare capacity of returned routes holds is none of the table's.
func TestSpareCapacity(t *testing.T) {
	table := filled(t, singles(4)...)
	routes := table.Routes()
	spare := routes[:cap(routes)]
	for i := range spare {
		spare[i] = route(0, 0, 9)
	}
	checkRoutes(t, "after a change of spare capacity", table, singles(4))
	if err := table.Set(route(100, 16, 1)); err != nil {
		t.Fatal(err)
	}
	checkRoutes(t, "after a change of spare capacity, with one more", table, append(singles(4), route(100, 16, 1)))
}
