package cidr_test

import (
	"fmt"
	"math"
	"slices"
	"strings"
	"testing"

	"ferryhythe/api"
	"ferryhythe/cidr"
	"ferryhythe/plain"
)

// bits is an address as a text of MaxLen digits.
func bits(addr int) string { return fmt.Sprintf("%016b", addr) }

// among reports whether a right prefix comprises an address, digit by digit.
func among(p api.Prefix, addr int) bool {
	return bits(p.Addr)[:p.Len] == bits(addr)[:p.Len]
}

// same are n prefixes, all equal to p.
func same(p api.Prefix, n int) []api.Prefix {
	return slices.Repeat([]api.Prefix{p}, n)
}

// singles are n prefixes of an address each, at every second address.
func singles(n int) []api.Prefix {
	var l []api.Prefix
	for i := range n {
		l = append(l, api.Prefix{Addr: 2 * i, Len: 16})
	}
	return l
}

// wrong are prefixes with what is wrong with them.
var wrong = []struct {
	name string
	p    api.Prefix
	err  api.Errno
}{
	{"a negative address", api.Prefix{Addr: -1, Len: 16}, api.ErrRange},
	{"a negative address that is a whole number of prefixes", api.Prefix{Addr: -65_536, Len: 0}, api.ErrRange},
	{"too great an address", api.Prefix{Addr: 65_536, Len: 16}, api.ErrRange},
	{"too great an address, no bits", api.Prefix{Addr: 65_536, Len: 0}, api.ErrRange},
	{"an address in its lowest bits", api.Prefix{Addr: 1<<32 + 1, Len: 16}, api.ErrRange},
	{"the least integer as address", api.Prefix{Addr: math.MinInt, Len: 16}, api.ErrRange},
	{"the greatest integer as address", api.Prefix{Addr: math.MaxInt, Len: 16}, api.ErrRange},
	{"a negative length", api.Prefix{Addr: 0, Len: -1}, api.ErrRange},
	{"a negative length, a 1", api.Prefix{Addr: 1, Len: -1}, api.ErrRange},
	{"too great a length", api.Prefix{Addr: 0, Len: 17}, api.ErrRange},
	{"too great a length, a 1", api.Prefix{Addr: 1, Len: 17}, api.ErrRange},
	{"a length in its lowest bits", api.Prefix{Addr: 0, Len: 1<<32 + 1}, api.ErrRange},
	{"too great a length for a shift", api.Prefix{Addr: 0, Len: 81}, api.ErrRange},
	{"the least integer as length", api.Prefix{Addr: 0, Len: math.MinInt}, api.ErrRange},
	{"the greatest integer as length", api.Prefix{Addr: 0, Len: math.MaxInt}, api.ErrRange},
	{"a wrong address and a wrong length", api.Prefix{Addr: -1, Len: 17}, api.ErrRange},
	{"too great an address, a 1 behind the bits", api.Prefix{Addr: 65_537, Len: 15}, api.ErrRange},
	{"a negative address, a 1 behind the bits", api.Prefix{Addr: -1, Len: 15}, api.ErrRange},

	{"a 1 behind no bits", api.Prefix{Addr: 1, Len: 0}, api.ErrShape},
	{"a 1 in front behind no bits", api.Prefix{Addr: 32_768, Len: 0}, api.ErrShape},
	{"only 1s behind no bits", api.Prefix{Addr: 65_535, Len: 0}, api.ErrShape},
	{"a 1 behind all other bits", api.Prefix{Addr: 1, Len: 15}, api.ErrShape},
	{"a 1 right behind the bits", api.Prefix{Addr: 0x0080, Len: 8}, api.ErrShape},
	{"a 1 last behind the bits", api.Prefix{Addr: 0xff01, Len: 8}, api.ErrShape},
	{"a 1 behind a bit", api.Prefix{Addr: 0xc000, Len: 1}, api.ErrShape},
}

// R7.1
func TestCheck(t *testing.T) {
	right := []api.Prefix{
		{Addr: 0, Len: 0}, {Addr: 0, Len: 1}, {Addr: 0, Len: 16}, {Addr: 1, Len: 16}, {Addr: 2, Len: 15},
		{Addr: 32_768, Len: 1}, {Addr: 0xff00, Len: 8}, {Addr: 0x0100, Len: 8}, {Addr: 65_534, Len: 15}, {Addr: 65_535, Len: 16},
	}
	for _, p := range right {
		if err := cidr.Check(p); err != nil {
			t.Errorf("Check(%v) is %v; want nil", p, err)
		}
	}
	for _, c := range wrong {
		if err := cidr.Check(c.p); plain.Told(err) != c.err {
			t.Errorf("%s: Check(%v) is %v; want %v", c.name, c.p, err, c.err)
		}
	}
}

// R7.1: of every address and every length, what the digits of the address say.
func TestCheckReadsDigits(t *testing.T) {
	for addr := -2; addr <= api.MaxAddr+2; addr++ {
		digits := ""
		if addr >= 0 && addr <= api.MaxAddr {
			digits = bits(addr)
		}
		for long := -2; long <= api.MaxLen+2; long++ {
			want := api.OK
			if digits == "" || long < 0 || long > api.MaxLen {
				want = api.ErrRange
			} else if strings.Contains(digits[long:], "1") {
				want = api.ErrShape
			}
			p := api.Prefix{Addr: addr, Len: long}
			if err := cidr.Check(p); plain.Told(err) != want {
				t.Fatalf("Check(%v) is %v; want %v", p, err, want)
			}
		}
	}
}

// R7.2
func TestHas(t *testing.T) {
	cases := []struct {
		name string
		p    api.Prefix
		addr int
		want bool
	}{
		{"the first of two", api.Prefix{Addr: 0, Len: 15}, 0, true},
		{"the second of two", api.Prefix{Addr: 0, Len: 15}, 1, true},
		{"behind two", api.Prefix{Addr: 0, Len: 15}, 2, false},
		{"ahead of two", api.Prefix{Addr: 2, Len: 15}, 1, false},
		{"all bits, equal", api.Prefix{Addr: 7, Len: 16}, 7, true},
		{"all bits, one more", api.Prefix{Addr: 7, Len: 16}, 8, false},
		{"all bits, one less", api.Prefix{Addr: 7, Len: 16}, 6, false},
		{"no bits, the least address", api.Prefix{Addr: 0, Len: 0}, 0, true},
		{"no bits, the greatest address", api.Prefix{Addr: 0, Len: 0}, 65_535, true},
		{"a 0, its greatest address", api.Prefix{Addr: 0, Len: 1}, 32_767, true},
		{"a 0, the next address", api.Prefix{Addr: 0, Len: 1}, 32_768, false},
		{"a 1, its least address", api.Prefix{Addr: 32_768, Len: 1}, 32_768, true},
		{"a 1, its greatest address", api.Prefix{Addr: 32_768, Len: 1}, 65_535, true},
		{"a 1, the address before", api.Prefix{Addr: 32_768, Len: 1}, 32_767, false},
		{"the greatest address alone", api.Prefix{Addr: 65_535, Len: 16}, 65_535, true},
		{"not the greatest address", api.Prefix{Addr: 65_534, Len: 16}, 65_535, false},
		{"the same last bits", api.Prefix{Addr: 0x0100, Len: 8}, 0x0001, false},
		{"eight bits", api.Prefix{Addr: 0x0100, Len: 8}, 0x01ff, true},
	}
	for _, c := range cases {
		if got, err := cidr.Has(c.p, c.addr); got != c.want || err != nil {
			t.Errorf("%s: Has(%v, %d) is %v, %v; want %v", c.name, c.p, c.addr, got, err, c.want)
		}
	}
}

// R7.2: of some prefixes of every length and all addresses, what the digits say.
func TestHasComparesDigits(t *testing.T) {
	for long := range api.MaxLen + 1 {
		for _, start := range []int{0x0000, 0x5555, 0xb3c1, 0xffff} {
			size := 1 << (api.MaxLen - long)
			p := api.Prefix{Addr: start / size * size, Len: long}
			for addr := range api.MaxAddr + 1 {
				// Comparing digits takes its time: leave out most of the addresses that are far from the ends of the prefix.
				near := min(abs(addr-p.Addr), abs(addr-p.Addr-size)) < 300
				if !near && addr%61 != 0 {
					continue
				}
				if got, err := cidr.Has(p, addr); got != among(p, addr) || err != nil {
					t.Fatalf("Has(%v, %d) is %v, %v; want %v", p, addr, got, err, among(p, addr))
				}
			}
		}
	}
}

func abs(n int) int { return max(n, -n) }

// R7.2
func TestErrorsOfHas(t *testing.T) {
	addresses := []int{-65_536, -1, 65_536, 1<<32 + 1, math.MinInt, math.MaxInt}
	for _, p := range []api.Prefix{{}, {Addr: 0, Len: 16}, {Addr: 65_535, Len: 16}, {Addr: 32_768, Len: 1}} {
		for _, addr := range addresses {
			if got, err := cidr.Has(p, addr); got || plain.Told(err) != api.ErrRange {
				t.Errorf("Has(%v, %d) is %v, %v; want false, ErrRange", p, addr, got, err)
			}
		}
	}
	// What is wrong with the prefix comes first.
	for _, c := range wrong {
		for _, addr := range append([]int{0, 1, 65_535}, addresses...) {
			if got, err := cidr.Has(c.p, addr); got || plain.Told(err) != c.err {
				t.Errorf("%s: Has(%v, %d) is %v, %v; want false, %v", c.name, c.p, addr, got, err, c.err)
			}
		}
	}
}

// row is a list of prefixes, with the fewest that comprise the same addresses, and the number of these.
type row struct {
	name    string
	l, want []api.Prefix
	many    int
}

// rows are new with each call, so that no test can spoil the lists of another.
func rows() []row {
	return []row{
		{"nil", nil, nil, 0},
		{"empty", []api.Prefix{}, nil, 0},
		{"one", []api.Prefix{{Addr: 8, Len: 13}}, []api.Prefix{{Addr: 8, Len: 13}}, 8},
		{"an address", []api.Prefix{{Addr: 7, Len: 16}}, []api.Prefix{{Addr: 7, Len: 16}}, 1},
		{"all addresses", []api.Prefix{{}}, []api.Prefix{{}}, 65_536},
		{"two halves", []api.Prefix{{Addr: 0, Len: 16}, {Addr: 1, Len: 16}}, []api.Prefix{{Addr: 0, Len: 15}}, 2},
		{"two halves, backwards", []api.Prefix{{Addr: 1, Len: 16}, {Addr: 0, Len: 16}}, []api.Prefix{{Addr: 0, Len: 15}}, 2},
		{"two halves of all addresses", []api.Prefix{{Addr: 32_768, Len: 1}, {Addr: 0, Len: 1}}, []api.Prefix{{}}, 65_536},
		{"the last two addresses", []api.Prefix{{Addr: 65_534, Len: 16}, {Addr: 65_535, Len: 16}}, []api.Prefix{{Addr: 65_534, Len: 15}}, 2},
		{"neighbours of different pairs", []api.Prefix{{Addr: 1, Len: 16}, {Addr: 2, Len: 16}}, []api.Prefix{{Addr: 1, Len: 16}, {Addr: 2, Len: 16}}, 2},
		{"neighbours of different lengths", []api.Prefix{{Addr: 0, Len: 15}, {Addr: 2, Len: 16}}, []api.Prefix{{Addr: 0, Len: 15}, {Addr: 2, Len: 16}}, 3},
		{"not neighbours", []api.Prefix{{Addr: 0, Len: 16}, {Addr: 2, Len: 16}}, []api.Prefix{{Addr: 0, Len: 16}, {Addr: 2, Len: 16}}, 2},
		{"not in order", []api.Prefix{{Addr: 6, Len: 16}, {Addr: 1, Len: 16}, {Addr: 4, Len: 16}}, []api.Prefix{{Addr: 1, Len: 16}, {Addr: 4, Len: 16}, {Addr: 6, Len: 16}}, 3},
		{"duplicates", []api.Prefix{{Addr: 4, Len: 14}, {Addr: 4, Len: 14}}, []api.Prefix{{Addr: 4, Len: 14}}, 4},
		{"duplicates of an address", []api.Prefix{{Addr: 0, Len: 16}, {Addr: 0, Len: 16}}, []api.Prefix{{Addr: 0, Len: 16}}, 1},
		{"duplicates of a half", []api.Prefix{{Addr: 0, Len: 16}, {Addr: 1, Len: 16}, {Addr: 0, Len: 16}, {Addr: 1, Len: 16}}, []api.Prefix{{Addr: 0, Len: 15}}, 2},
		{"one within another", []api.Prefix{{Addr: 5, Len: 16}, {Addr: 4, Len: 14}}, []api.Prefix{{Addr: 4, Len: 14}}, 4},
		{"the start of another", []api.Prefix{{Addr: 4, Len: 16}, {Addr: 4, Len: 14}}, []api.Prefix{{Addr: 4, Len: 14}}, 4},
		{"the end of another", []api.Prefix{{Addr: 7, Len: 16}, {Addr: 4, Len: 14}}, []api.Prefix{{Addr: 4, Len: 14}}, 4},
		{"within all addresses", []api.Prefix{{Addr: 65_535, Len: 16}, {}, {Addr: 0, Len: 16}}, []api.Prefix{{}}, 65_536},
		{"two within another", []api.Prefix{{Addr: 6, Len: 16}, {Addr: 4, Len: 16}, {Addr: 4, Len: 14}, {Addr: 8, Len: 16}}, []api.Prefix{{Addr: 4, Len: 14}, {Addr: 8, Len: 16}}, 5},
		{"a half of halves", []api.Prefix{{Addr: 0, Len: 15}, {Addr: 2, Len: 16}, {Addr: 3, Len: 16}}, []api.Prefix{{Addr: 0, Len: 14}}, 4},
		{"a half of halves ahead", []api.Prefix{{Addr: 2, Len: 15}, {Addr: 0, Len: 16}, {Addr: 1, Len: 16}}, []api.Prefix{{Addr: 0, Len: 14}}, 4},
		{"a half, and one within it", []api.Prefix{{Addr: 0, Len: 15}, {Addr: 1, Len: 16}, {Addr: 2, Len: 15}}, []api.Prefix{{Addr: 0, Len: 14}}, 4},
		{"three in a row", []api.Prefix{{Addr: 1, Len: 16}, {Addr: 2, Len: 16}, {Addr: 3, Len: 16}}, []api.Prefix{{Addr: 1, Len: 16}, {Addr: 2, Len: 15}}, 3},
		{"the last of halves of halves", []api.Prefix{{Addr: 0, Len: 1}, {Addr: 32_768, Len: 2}, {Addr: 49_152, Len: 3}, {Addr: 57_344, Len: 3}}, []api.Prefix{{}}, 65_536},
		{"all but the first address", stairs(), stairs(), 65_535},
		{"all but the first address, and it", append(stairs(), api.Prefix{Len: 16}), []api.Prefix{{}}, 65_536},
		{"most prefixes, far apart", singles(32), singles(32), 32},
		{"most prefixes, all equal", same(api.Prefix{Addr: 8, Len: 13}, 32), []api.Prefix{{Addr: 8, Len: 13}}, 8},
		{"most prefixes, all addresses", slices.Collect(fives), []api.Prefix{{}}, 65_536},
	}
}

// stairs are the prefixes that comprise all addresses but 0, by increasing address.
func stairs() []api.Prefix {
	var l []api.Prefix
	for i := range api.MaxLen {
		l = append(l, api.Prefix{Addr: 1 << i, Len: api.MaxLen - i})
	}
	return l
}

// fives yields the prefixes of five bits, not in order.
func fives(yield func(api.Prefix) bool) {
	for i := range 32 {
		if !yield(api.Prefix{Addr: i * 13 % 32 * 2048, Len: 5}) {
			return
		}
	}
}

// R7.3
func TestFewest(t *testing.T) {
	for _, c := range rows() {
		if got, err := cidr.Fewest(c.l); !slices.Equal(got, c.want) || err != nil {
			t.Errorf("%s: Fewest(%v) is %v, %v; want %v", c.name, c.l, got, err, c.want)
		}
	}
}

// R7.4
func TestMany(t *testing.T) {
	for _, c := range rows() {
		if got, err := cidr.Many(c.l); got != c.many || err != nil {
			t.Errorf("%s: Many(%v) is %d, %v; want %d", c.name, c.l, got, err, c.many)
		}
	}
}

// R7.3 and R7.4
func TestErrorsOfLists(t *testing.T) {
	type list struct {
		name string
		l    []api.Prefix
		err  api.Errno
	}
	outside, bent := api.Prefix{Addr: -1, Len: 16}, api.Prefix{Addr: 1, Len: 15}
	cases := []list{
		{"one prefix too many", singles(33), api.ErrFull},
		{"one prefix too many, all equal", same(api.Prefix{}, 33), api.ErrFull},
		{"one prefix too many, the last is outside", append(singles(32), outside), api.ErrFull},
		{"one prefix too many, the first has a 1 behind its bits", append([]api.Prefix{bent}, singles(32)...), api.ErrFull},
		{"one prefix too many, all outside", same(outside, 33), api.ErrFull},
		{"one prefix too many, all with a 1 behind their bits", same(bent, 33), api.ErrFull},
		{"too many prefixes by far", singles(5000), api.ErrFull},

		{"the last of most is outside", append(singles(31), outside), api.ErrRange},
		{"the last of most has a 1 behind its bits", append(singles(31), bent), api.ErrShape},
		{"outside ahead of a 1 behind the bits", []api.Prefix{outside, bent}, api.ErrRange},
		{"a 1 behind the bits ahead of outside", []api.Prefix{bent, outside}, api.ErrShape},
		{"a 1 behind the bits, within all addresses", []api.Prefix{{}, bent}, api.ErrShape},
	}
	for _, c := range wrong {
		right := api.Prefix{Addr: 8, Len: 13}
		cases = append(cases, list{c.name, []api.Prefix{c.p}, c.err}, list{c.name, []api.Prefix{right, c.p, right}, c.err})
	}
	for _, c := range cases {
		if got, err := cidr.Fewest(c.l); len(got) > 0 || plain.Told(err) != c.err {
			t.Errorf("%s: Fewest is %v, %v; want none, %v", c.name, got, err, c.err)
		}
		if got, err := cidr.Many(c.l); got != 0 || plain.Told(err) != c.err {
			t.Errorf("%s: Many is %d, %v; want 0, %v", c.name, got, err, c.err)
		}
	}
}

// set is, of every address, whether it is in the set.
type set [api.MaxAddr + 1]bool

// union is the set of the addresses of some right prefixes.
func union(l []api.Prefix) *set {
	var s set
	for _, p := range l {
		for i := range 1 << (api.MaxLen - p.Len) {
			s[p.Addr+i] = true
		}
	}
	return &s
}

// widest are the prefixes within a set that lie in no other prefix within it, and how many addresses they have.
func (s *set) widest() (l []api.Prefix, many int) {
	for addr := 0; addr < len(s); {
		if !s[addr] {
			addr++
			continue
		}
		long, size := 0, len(s)
		for addr%size != 0 || slices.Contains(s[addr:addr+size], false) {
			long++
			size /= 2
		}
		l = append(l, api.Prefix{Addr: addr, Len: long})
		addr += size
		many += size
	}
	return l, many
}

// checkLists compares Fewest and Many of a list, in some orders, with what the set of its addresses gives.
func checkLists(t *testing.T, l []api.Prefix) {
	t.Helper()
	want, many := union(l).widest()
	back := slices.Clone(l)
	slices.Reverse(back)
	turned := slices.Concat(l[len(l)/2:], l[:len(l)/2])
	for _, order := range [][]api.Prefix{l, back, turned} {
		if got, err := cidr.Fewest(order); !slices.Equal(got, want) || err != nil {
			t.Fatalf("Fewest(%v) is %v, %v; want %v", order, got, err, want)
		}
		if got, err := cidr.Many(order); got != many || err != nil {
			t.Fatalf("Many(%v) is %d, %v; want %d", order, got, err, many)
		}
	}
}

// R7.3 and R7.4: of all sets of the prefixes within one of them, at both ends of the addresses.
func TestListsOfSubtree(t *testing.T) {
	for _, top := range []api.Prefix{{Addr: 0, Len: 14}, {Addr: 65_532, Len: 14}, {Addr: 0, Len: 0}} {
		var pool []api.Prefix
		for below := range 3 {
			size := 1 << (api.MaxLen - top.Len - below)
			for i := range 1 << below {
				pool = append(pool, api.Prefix{Addr: top.Addr + i*size, Len: top.Len + below})
			}
		}
		for chosen := range 1 << len(pool) {
			var l []api.Prefix
			for i, p := range pool {
				if chosen>>i&1 == 1 {
					l = append(l, p)
				}
			}
			checkLists(t, l)
		}
	}
}

// R7.3 and R7.4: of all short lists of addresses and pairs in a row of eight, with duplicates and in all orders.
func TestShortLists(t *testing.T) {
	var pool []api.Prefix
	for addr := range 8 {
		pool = append(pool, api.Prefix{Addr: addr, Len: 16})
		if addr%2 == 0 {
			pool = append(pool, api.Prefix{Addr: addr, Len: 15})
		}
	}
	for _, a := range pool {
		for _, b := range pool {
			for _, c := range pool {
				checkLists(t, []api.Prefix{a, b, c})
			}
		}
	}
}

// R7.3 and R7.4: of lists of up to the most prefixes, of many lengths, that follow a rule without a visible order.
func TestMixedLists(t *testing.T) {
	state := uint32(1)
	next := func(n int) int {
		state = state*1_664_525 + 1_013_904_223
		return int(state>>8) % n
	}
	for n := range 2000 {
		// Few different addresses and a narrow span of lengths make halves that meet.
		shortest := next(api.MaxLen)
		spread := 1 + next(5)
		var l []api.Prefix
		for range n % (api.MaxRoutes + 1) {
			long := min(api.MaxLen, shortest+next(spread))
			size := 1 << (api.MaxLen - long)
			l = append(l, api.Prefix{Addr: next(min(1<<long, 24)) * size, Len: long})
		}
		checkLists(t, l)
	}
}

// Z2: arguments and their spare capacity stay as they are, and results have memory of their own.
func TestMemory(t *testing.T) {
	for _, c := range rows() {
		memory := append(slices.Clone(c.l), api.Prefix{Addr: 6, Len: 15}, api.Prefix{Addr: -1, Len: 99})
		before := slices.Clone(memory)
		arg := memory[:len(c.l)]
		cidr.Many(arg)
		fewest, err := cidr.Fewest(arg)
		if err != nil {
			t.Fatalf("Fewest(%v): %v", c.l, err)
		}
		_ = append(fewest, api.Prefix{Addr: 9, Len: 9})
		for i := range fewest {
			fewest[i] = api.Prefix{Addr: 9, Len: 9}
		}
		if !slices.Equal(memory, before) {
			t.Errorf("%s: Many or Fewest, or a change of its result, makes the memory of the argument %v; want %v", c.name, memory, before)
		}
	}
}

// Z2: results depend only on the arguments: a call that follows others, or a change of their results, gives the same.
func TestNothingIsKept(t *testing.T) {
	l := []api.Prefix{{Addr: 0, Len: 16}, {Addr: 1, Len: 16}, {Addr: 4, Len: 16}}
	want := []api.Prefix{{Addr: 0, Len: 15}, {Addr: 4, Len: 16}}
	for range 3 {
		cidr.Fewest([]api.Prefix{{Addr: 2, Len: 15}})
		cidr.Fewest([]api.Prefix{{Addr: 2, Len: 15}, {Addr: -1}})
		got, err := cidr.Fewest(l)
		if !slices.Equal(got, want) || err != nil {
			t.Errorf("Fewest(%v) is %v, %v; want %v", l, got, err, want)
		}
		clear(got)
		if many, err := cidr.Many(l); many != 3 || err != nil {
			t.Errorf("Many(%v) is %d, %v; want 3", l, many, err)
		}
	}
}
