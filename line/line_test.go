package line_test

import (
	"math"
	"slices"
	"strings"
	"testing"

	"ferryhythe/api"
	"ferryhythe/line"
	"ferryhythe/plain"
)

const most = 5 * api.MaxParts

// codes are the codes of 0, 1, 2, ...
var codes = []string{
	"11110", "01001", "10100", "10101", "01010", "01011", "01110", "01111",
	"10010", "10011", "10110", "10111", "11010", "11011", "11100", "11101",
}

// bits reads a row of bits such as "0110"; anything else than 0 and 1 is left out.
func bits(s string) []int {
	var l []int
	for _, r := range s {
		if r == '0' || r == '1' {
			l = append(l, int(r-'0'))
		}
	}
	return l
}

// spelled is the codes of the numbers, one behind the other.
func spelled(l []int) []int {
	var s strings.Builder
	for _, n := range l {
		s.WriteString(codes[n])
	}
	return bits(s.String())
}

// repeat is n elements, all equal to b.
func repeat(b, n int) []int {
	return slices.Repeat([]int{b}, n)
}

// rows yields every row of at most limit numbers in [0, greatest].
func rows(greatest, limit int) func(yield func([]int) bool) {
	return func(yield func([]int) bool) {
		level := [][]int{nil}
		for range limit + 1 {
			var longer [][]int
			for _, row := range level {
				if !yield(row) {
					return
				}
				for n := range greatest + 1 {
					longer = append(longer, append(slices.Clone(row), n))
				}
			}
			level = longer
		}
	}
}

// R5.1
func TestFive(t *testing.T) {
	cases := []struct {
		name    string
		numbers []int
		bits    string
	}{
		{"nil", nil, ""},
		{"empty", []int{}, ""},
		{"the least number", []int{0}, "11110"},
		{"the greatest number", []int{15}, "11101"},
		{"two numbers", []int{15, 3}, "11101 10101"},
		{"all numbers", []int{0, 1, 2, 3, 4, 5, 6, 7, 8, 9, 10, 11, 12, 13, 14, 15}, strings.Join(codes, " ")},
		{"most numbers, the least", repeat(0, 40), strings.Repeat("11110", 40)},
		{"most numbers, the greatest", repeat(15, 40), strings.Repeat("11101", 40)},
	}
	for _, c := range cases {
		if got, err := line.Five(c.numbers); !slices.Equal(got, bits(c.bits)) || err != nil {
			t.Errorf("%s: Five(%v) is %v, %v; want %s", c.name, c.numbers, got, err, c.bits)
		}
	}
}

// R5.1, R5.2: the codes stand one behind the other, and decoding them gives the numbers.
func TestFiveSpells(t *testing.T) {
	for row := range rows(api.MaxNibble, 3) {
		code, err := line.Five(row)
		if !slices.Equal(code, spelled(row)) || err != nil {
			t.Fatalf("Five(%v) is %v, %v; want %v", row, code, err, spelled(row))
		}
		if back, err := line.Four(code); !slices.Equal(back, row) || err != nil {
			t.Fatalf("Four(%v) is %v, %v; want %v", code, back, err, row)
		}
	}
}

// R5.1
func TestErrorsOfFive(t *testing.T) {
	cases := []struct {
		name    string
		numbers []int
		err     api.Errno
	}{
		{"negative", []int{-1}, api.ErrRange},
		{"too great", []int{16}, api.ErrRange},
		{"too great behind right ones", []int{0, 15, 16}, api.ErrRange},
		{"too great ahead of right ones", []int{16, 15, 0}, api.ErrRange},
		{"a nibble in its lowest bits", []int{1<<32 + 7}, api.ErrRange},
		{"least integer", []int{math.MinInt}, api.ErrRange},
		{"greatest integer", []int{math.MaxInt}, api.ErrRange},
		{"last of the most", append(repeat(3, api.MaxParts-1), 16), api.ErrRange},
		{"too many", repeat(3, api.MaxParts+1), api.ErrFull},
		{"too many that are too great", repeat(16, api.MaxParts+1), api.ErrFull},
		{"too many by far", repeat(3, 100*api.MaxParts), api.ErrFull},
	}
	for _, c := range cases {
		if got, err := line.Five(c.numbers); len(got) > 0 || plain.Told(err) != c.err {
			t.Errorf("%s: Five is %v, %v; want none, %v", c.name, got, err, c.err)
		}
	}
}

// R5.2
func TestFour(t *testing.T) {
	cases := []struct {
		name    string
		bits    string
		numbers []int
	}{
		{"no bits", "", nil},
		{"the least number", "11110", []int{0}},
		{"the greatest number", "11101", []int{15}},
		{"two numbers", "11101 10101", []int{15, 3}},
		{"all numbers", strings.Join(codes, " "), []int{0, 1, 2, 3, 4, 5, 6, 7, 8, 9, 10, 11, 12, 13, 14, 15}},
		{"most bits", strings.Repeat("01001", 40), repeat(1, 40)},
		{"most bits, the last number another", strings.Repeat("01001", 39) + "11110", append(repeat(1, 39), 0)},
	}
	for _, c := range cases {
		if got, err := line.Four(bits(c.bits)); !slices.Equal(got, c.numbers) || err != nil {
			t.Errorf("%s: Four(%s) is %v, %v; want %v", c.name, c.bits, got, err, c.numbers)
		}
	}
}

// R5.2: of every row of up to ten bits, and of two codes around any five bits, what looking the codes up gives.
func TestFourLooksUp(t *testing.T) {
	check := func(row []int) {
		want, wantErr := lookUp(row)
		if got, err := line.Four(row); !slices.Equal(got, want) || plain.Told(err) != wantErr {
			t.Fatalf("Four(%v) is %v, %v; want %v, %v", row, got, err, want, wantErr)
		}
	}
	for row := range rows(1, 10) {
		check(row)
		if len(row) == 5 {
			check(slices.Concat(bits(codes[7]), row, bits(codes[0])))
		}
	}
}

// lookUp finds the numbers of all codes in a row of bits.
func lookUp(row []int) ([]int, api.Errno) {
	if len(row)%5 != 0 {
		return nil, api.ErrShape
	}
	var l []int
	for part := range slices.Chunk(row, 5) {
		n := slices.IndexFunc(codes, func(c string) bool { return slices.Equal(bits(c), part) })
		if n < 0 {
			return nil, api.ErrSyntax
		}
		l = append(l, n)
	}
	return l, api.OK
}

// R5.2
func TestErrorsOfFour(t *testing.T) {
	threes := func(n int) []int { return slices.Repeat(bits("10101"), n) }
	cases := []struct {
		name string
		bits []int
		err  api.Errno
	}{
		{"too great and no multiple of five", append(threes(1), 2), api.ErrRange},
		{"negative and no multiple of five", []int{-1}, api.ErrRange},
		{"too great behind what is not a code", append(bits("00000 1010"), 2), api.ErrRange},
		{"too great within what is not a code", []int{0, 0, 2, 0, 0}, api.ErrRange},

		{"a bit", bits("1"), api.ErrShape},
		{"four bits", bits("1111"), api.ErrShape},
		{"six bits", bits("111100"), api.ErrShape},
		{"a bit behind what is not a code", bits("00000 1"), api.ErrShape},
		{"one bit less than the most", repeat(0, most-1), api.ErrShape},

		{"0s", bits("00000"), api.ErrSyntax},
		{"1s", bits("11111"), api.ErrSyntax},
		{"not a code ahead", bits("11000 11110"), api.ErrSyntax},
		{"not a code behind", bits("11110 11000"), api.ErrSyntax},
		{"most bits, the last not a code", append(threes(api.MaxParts-1), repeat(0, 5)...), api.ErrSyntax},

		{"too many codes", threes(api.MaxParts + 1), api.ErrFull},
		{"one bit more than the most", append(threes(api.MaxParts), 1), api.ErrFull},
		{"too many by far", threes(100 * api.MaxParts), api.ErrFull},
	}
	for _, c := range cases {
		if got, err := line.Four(c.bits); len(got) > 0 || plain.Told(err) != c.err {
			t.Errorf("%s: Four is %v, %v; want none, %v", c.name, got, err, c.err)
		}
	}
}

// turned are bits with the levels after them.
var turned = []struct{ bits, wire string }{
	{"", ""},
	{"0", "0"},
	{"1", "1"},
	{"101", "110"},
	{"11", "10"},
	{"01", "01"},
	{"10", "11"},
	{"000", "000"},
	{"1000", "1111"},
	{"0110", "0100"},
	{"111111", "101010"},
	{"11110 01001", "10100 01110"},
	{strings.Repeat("0", 200), strings.Repeat("0", 200)},
	{strings.Repeat("1", 200), strings.Repeat("10", 100)},
	{"1" + strings.Repeat("0", 199), strings.Repeat("1", 200)},
	{strings.Repeat("0", 199) + "1", strings.Repeat("0", 199) + "1"},
}

// R5.3
func TestTurns(t *testing.T) {
	for _, c := range turned {
		if got, err := line.Turns(bits(c.bits)); !slices.Equal(got, bits(c.wire)) || err != nil {
			t.Errorf("Turns(%s) is %v, %v; want %s", c.bits, got, err, c.wire)
		}
	}
}

// R5.4
func TestBits(t *testing.T) {
	for _, c := range turned {
		if got, err := line.Bits(bits(c.wire)); !slices.Equal(got, bits(c.bits)) || err != nil {
			t.Errorf("Bits(%s) is %v, %v; want %s", c.wire, got, err, c.bits)
		}
	}
}

// R5.3, R5.4: of every row, the level is 1 after an odd number of 1s, and the levels give the bits.
func TestTurnsCounts(t *testing.T) {
	for row := range rows(1, 12) {
		var want []int
		ones := 0
		for _, b := range row {
			ones += b
			want = append(want, ones%2)
		}
		wire, err := line.Turns(row)
		if !slices.Equal(wire, want) || err != nil {
			t.Fatalf("Turns(%v) is %v, %v; want %v", row, wire, err, want)
		}
		if back, err := line.Bits(wire); !slices.Equal(back, row) || err != nil {
			t.Fatalf("Bits(%v) is %v, %v; want %v", wire, back, err, row)
		}
	}
}

// R5.2, R5.3, R5.4: the errors that the functions of bits share.
func TestErrorsOfBits(t *testing.T) {
	cases := []struct {
		name string
		bits []int
		err  api.Errno
	}{
		{"two", []int{2}, api.ErrRange},
		{"negative", []int{-1}, api.ErrRange},
		{"last of three", []int{0, 1, 2}, api.ErrRange},
		{"first of five", []int{2, 1, 1, 1, 0}, api.ErrRange},
		{"last of five", []int{1, 1, 1, 1, 2}, api.ErrRange},
		{"a bit in its lowest bits", []int{1<<32 + 1}, api.ErrRange},
		{"least integer", []int{1, math.MinInt, 1}, api.ErrRange},
		{"greatest integer", []int{math.MaxInt}, api.ErrRange},
		{"last of the most", append(repeat(1, most-1), 2), api.ErrRange},
		{"too many 0s", repeat(0, most+1), api.ErrFull},
		{"too many 1s", repeat(1, most+1), api.ErrFull},
		{"too many that are not bits", repeat(2, most+1), api.ErrFull},
		{"too many by far", repeat(1, 100*most), api.ErrFull},
	}
	for _, c := range cases {
		for _, f := range []struct {
			name string
			call func([]int) ([]int, error)
		}{{"Four", line.Four}, {"Turns", line.Turns}, {"Bits", line.Bits}} {
			if got, err := f.call(c.bits); len(got) > 0 || plain.Told(err) != c.err {
				t.Errorf("%s: %s is %v, %v; want none, %v", c.name, f.name, got, err, c.err)
			}
		}
	}
}

// Z2: arguments and their spare capacity stay as they are, and results have memory of their own.
func TestMemory(t *testing.T) {
	check := func(name string, f func([]int) ([]int, error), l []int) {
		memory := append(slices.Clone(l), 7, 8, 9)
		before := slices.Clone(memory)
		result, err := f(memory[:len(l)])
		if err != nil {
			t.Fatalf("%s(%v): %v", name, l, err)
		}
		want := slices.Clone(result)
		_ = append(result, 6, 6, 6)
		for i := range result {
			result[i] = 6
		}
		if !slices.Equal(memory, before) {
			t.Errorf("%s(%v) or a change of its result makes the memory of the argument %v", name, l, memory)
		}
		if again, err := f(l); !slices.Equal(again, want) || err != nil {
			t.Errorf("after a change of its result %s(%v) is %v, %v; want %v", name, l, again, err, want)
		}
	}
	for _, l := range [][]int{nil, {1, 0, 1}, {0, 0, 0, 1}} {
		check("Five", line.Five, l)
		check("Four", line.Four, spelled(l))
		check("Turns", line.Turns, l)
		check("Bits", line.Bits, l)
	}
}
