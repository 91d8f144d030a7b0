package cobs_test

import (
	"fmt"
	"math"
	"slices"
	"testing"

	"ferryhythe/api"
	"ferryhythe/cobs"
	"ferryhythe/plain"
)

// longest is the number of bytes that a block may have.
const longest = 254

// sevens are n bytes that are not 0.
func sevens(n int) []int {
	return slices.Repeat([]int{7}, n)
}

// block is a block of n bytes, encoded.
func block(n int) []int {
	return append([]int{n + 1}, sevens(n)...)
}

// join puts rows one behind the other.
func join(rows ...[]int) []int {
	return slices.Concat(rows...)
}

// coded are bytes with their Write.
var coded = []struct {
	name        string
	plain, code []int
}{
	{"bytes around a 0", []int{7, 0, 9}, []int{2, 7, 2, 9}},
	{"no bytes", nil, []int{1}},
	{"a 0", []int{0}, []int{1, 1}},
	{"two 0s", []int{0, 0}, []int{1, 1, 1}},
	{"a byte", []int{7}, []int{2, 7}},
	{"the least byte that is not 0", []int{1}, []int{2, 1}},
	{"the greatest byte", []int{255}, []int{2, 255}},
	{"a 0 ahead", []int{0, 5}, []int{1, 2, 5}},
	{"a 0 behind", []int{5, 0}, []int{2, 5, 1}},
	{"two 0s within", []int{5, 0, 0, 6}, []int{2, 5, 1, 2, 6}},
	{"bytes that look like numbers of bytes", []int{1, 2, 3, 0, 255, 254}, []int{4, 1, 2, 3, 3, 255, 254}},
	{"one byte less than the longest", sevens(253), block(253)},
	{"one byte less than the longest, a 0", join(sevens(253), []int{0}), join(block(253), []int{1})},
	{"one byte less than the longest, a 0, a byte", join(sevens(253), []int{0, 9}), join(block(253), []int{2, 9})},
	{"the longest block", sevens(254), block(254)},
	{"the longest block, a 0", join(sevens(254), []int{0}), join(block(254), []int{1, 1})},
	{"the longest block, two 0s", join(sevens(254), []int{0, 0}), join(block(254), []int{1, 1, 1})},
	{"the longest block, a 0, a byte", join(sevens(254), []int{0, 9}), join(block(254), []int{1, 2, 9})},
	{"a 0, the longest block", join([]int{0}, sevens(254)), join([]int{1}, block(254))},
	{"one byte more than the longest", sevens(255), join(block(254), block(1))},
	{"one byte more than the longest, a 0", join(sevens(255), []int{0}), join(block(254), block(1), []int{1})},
	{"two longest blocks", sevens(508), join(block(254), block(254))},
	{"two longest blocks, a 0", join(sevens(508), []int{0}), join(block(254), block(254), []int{1, 1})},
	{"two longest blocks around a 0", join(sevens(254), []int{0}, sevens(254)), join(block(254), []int{1}, block(254))},
	{"most bytes", sevens(600), join(block(254), block(254), block(92))},
	{"most bytes, the last a 0", join(sevens(599), []int{0}), join(block(254), block(254), block(91), []int{1})},
	{"the longest block, of the greatest byte", slices.Repeat([]int{255}, 254), slices.Repeat([]int{255}, 255)},
	{"most 0s", make([]int, 600), slices.Repeat([]int{1}, 601)},
}

// R4.1
func TestWrite(t *testing.T) {
	for _, c := range coded {
		if got, err := cobs.Write(c.plain); !slices.Equal(got, c.code) || err != nil {
			t.Errorf("%s: Write(%v) is %v, %v; want %v", c.name, c.plain, got, err, c.code)
		}
	}
}

// R4.1
func TestErrorsOfWrite(t *testing.T) {
	cases := []struct {
		name  string
		plain []int
		err   api.Errno
	}{
		{"negative", []int{-1}, api.ErrRange},
		{"too great", []int{256}, api.ErrRange},
		{"too great behind right ones", []int{1, 0, 255, 256}, api.ErrRange},
		{"too great behind a 0", []int{0, 0, 300}, api.ErrRange},
		{"too great behind the longest block", append(sevens(254), 256), api.ErrRange},
		{"a byte in its lowest bits", []int{1<<32 + 7}, api.ErrRange},
		{"least integer", []int{math.MinInt}, api.ErrRange},
		{"greatest integer", []int{math.MaxInt}, api.ErrRange},
		{"last of the most", append(sevens(api.MaxBytes-1), -1), api.ErrRange},
		{"too many", sevens(api.MaxBytes + 1), api.ErrFull},
		{"too many 0s", make([]int, api.MaxBytes+1), api.ErrFull},
		{"too many that are not bytes", slices.Repeat([]int{256}, api.MaxBytes+1), api.ErrFull},
		{"too many by far", sevens(100 * api.MaxBytes), api.ErrFull},
	}
	for _, c := range cases {
		if got, err := cobs.Write(c.plain); len(got) > 0 || plain.Told(err) != c.err {
			t.Errorf("%s: Write is %v, %v; want none, %v", c.name, got, err, c.err)
		}
	}
}

// spelled encodes what is between 0s, one piece after the other.
func spelled(bytes []int) []int {
	var code []int
	pieces := between(bytes)
	for i, piece := range pieces {
		whole := len(piece) / longest
		for k := range whole {
			code = append(code, longest+1)
			code = append(code, piece[k*longest:(k+1)*longest]...)
		}
		tail := piece[whole*longest:]
		if endsFull := whole > 0 && len(tail) == 0; endsFull && i == len(pieces)-1 {
			continue
		}
		code = append(code, len(tail)+1)
		code = append(code, tail...)
	}
	return code
}

// between splits bytes at every 0.
func between(bytes []int) [][]int {
	pieces := [][]int{nil}
	for _, b := range bytes {
		last := len(pieces) - 1
		if b == 0 {
			pieces = append(pieces, nil)
		} else {
			pieces[last] = append(pieces[last], b)
		}
	}
	return pieces
}

// rows yields every row of at most limit numbers in [0, greatest].
func rows(greatest, limit int) func(yield func([]int) bool) {
	return func(yield func([]int) bool) {
		level := [][]int{nil}
		for range limit + 1 {
			var longer [][]int
			for _, row := range level {
				if !yield(row) {
					return
				}
				for n := range greatest + 1 {
					longer = append(longer, append(slices.Clone(row), n))
				}
			}
			level = longer
		}
	}
}

// long yields rows about as long as one or two longest blocks, with 0s at all places near the ends of blocks.
func long(yield func([]int) bool) {
	places := []int{0, 1, 252, 253, 254, 255, 256, 507, 508, 509, 510}
	for _, size := range []int{252, 253, 254, 255, 256, 507, 508, 509, 510, 511, 599, 600} {
		for _, first := range places {
			for _, second := range places {
				row := sevens(size)
				for i := range row {
					row[i] = 1 + i%api.MaxByte
				}
				for _, place := range []int{first, second} {
					if place < size {
						row[place] = 0
					}
				}
				if !yield(row) {
					return
				}
			}
		}
	}
}

// R4.1, R4.2: the encoding is that of the pieces between 0s, has no 0, and reading it gives the bytes.
func TestWriteSpells(t *testing.T) {
	check := func(row []int) {
		code, err := cobs.Write(row)
		if err != nil || slices.Contains(code, 0) || !slices.Equal(code, spelled(row)) {
			t.Fatalf("Write(%v) is %v, %v; want %v", row, code, err, spelled(row))
		}
		if back, err := cobs.Read(code); !slices.Equal(back, row) || err != nil {
			t.Fatalf("Read(%v) is %v, %v; want %v", code, back, err, row)
		}
	}
	for row := range rows(3, 6) {
		check(row)
	}
	for row := range rows(1, 12) {
		check(row)
	}
	for row := range long {
		check(row)
	}
}

// R4.2
func TestRead(t *testing.T) {
	for _, c := range coded {
		if got, err := cobs.Read(c.code); !slices.Equal(got, c.plain) || err != nil {
			t.Errorf("%s: Read(%v) is %v, %v; want %v", c.name, c.code, got, err, c.plain)
		}
	}
	// Write returns none of these: no empty block is needed at the end, as no 0 is behind the longest block.
	others := []struct {
		name        string
		code, plain []int
	}{
		{"an empty block behind the longest", join(block(254), []int{1}), sevens(254)},
		{"an empty block behind two of the longest", join(block(254), block(254), []int{1}), sevens(508)},
	}
	for _, c := range others {
		if got, err := cobs.Read(c.code); !slices.Equal(got, c.plain) || err != nil {
			t.Errorf("%s: Read(%v) is %v, %v; want %v", c.name, c.code, got, err, c.plain)
		}
	}
}

// R4.2
func TestErrorsOfRead(t *testing.T) {
	ones := func(n int) []int { return slices.Repeat([]int{1}, n) }
	cases := []struct {
		name string
		code []int
		err  api.Errno
	}{
		{"nil", nil, api.ErrNone},
		{"empty", []int{}, api.ErrNone},

		{"negative", []int{-1}, api.ErrRange},
		{"too great", []int{256}, api.ErrRange},
		{"too great within a block", []int{2, 256}, api.ErrRange},
		{"too great behind blocks", []int{1, 1, 256}, api.ErrRange},
		{"too great behind a 0", []int{0, 256}, api.ErrRange},
		{"too great behind a block with a 0", []int{2, 0, -1}, api.ErrRange},
		{"too great in a block that is not complete", []int{9, 1, 999}, api.ErrRange},
		{"too great behind too many bytes", append(ones(700), 256), api.ErrRange},
		{"a byte in its lowest bits", []int{1<<32 + 1}, api.ErrRange},
		{"least integer", []int{math.MinInt}, api.ErrRange},
		{"greatest integer", []int{math.MaxInt}, api.ErrRange},
		{"last of the most", append(ones(2*api.MaxBytes-1), 256), api.ErrRange},

		{"too many numbers", ones(2*api.MaxBytes + 1), api.ErrFull},
		{"too many numbers, wrong ones", make([]int, 2*api.MaxBytes+1), api.ErrFull},
		{"too many numbers that are not bytes", slices.Repeat([]int{256}, 2*api.MaxBytes+1), api.ErrFull},

		{"a 0", []int{0}, api.ErrSyntax},
		{"a 0 behind a block", []int{2, 7, 0}, api.ErrSyntax},
		{"a 0 between blocks", []int{2, 7, 0, 2, 7}, api.ErrSyntax},
		{"a 0 behind the longest block", append(block(254), 0), api.ErrSyntax},
		{"a byte is missing", []int{2}, api.ErrSyntax},
		{"one of two bytes is missing", []int{3, 7}, api.ErrSyntax},
		{"a byte of the second block is missing", []int{2, 7, 3, 7}, api.ErrSyntax},
		{"a byte of the longest block is missing", block(254)[:254], api.ErrSyntax},
		{"all bytes of the longest block are missing", []int{255}, api.ErrSyntax},
		{"a block is only a 0", []int{2, 0}, api.ErrSyntax},
		{"a block starts with 0", []int{3, 0, 7}, api.ErrSyntax},
		{"a block ends with 0", []int{3, 7, 0}, api.ErrSyntax},
		{"the second block has a 0", []int{2, 7, 3, 7, 0}, api.ErrSyntax},
		{"the longest block ends with 0", join([]int{255}, sevens(253), []int{0}), api.ErrSyntax},
		{"only 0s", make([]int, 2*api.MaxBytes), api.ErrSyntax},
		{"too many bytes, then a 0", append(ones(1199), 0), api.ErrSyntax},
		{"too many bytes, then a byte is missing", append(ones(1199), 2), api.ErrSyntax},
		{"too many bytes, then a block has a 0", append(ones(1000), 2, 0), api.ErrSyntax},

		{"one 0 too many", ones(602), api.ErrFull},
		{"one byte too many in blocks", join(block(254), block(254), block(93)), api.ErrFull},
		{"one 0 too many behind blocks", join(block(254), block(254), block(92), []int{1}), api.ErrFull},
		{"most numbers", ones(2 * api.MaxBytes), api.ErrFull},
		{"most numbers in blocks", join(block(254), block(254), block(254), block(254), block(179)), api.ErrFull},
	}
	for _, c := range cases {
		if got, err := cobs.Read(c.code); len(got) > 0 || plain.Told(err) != c.err {
			t.Errorf("%s: Read is %v, %v; want none, %v", c.name, got, err, c.err)
		}
	}
}

// R4.2: of every short row, whether it is the Write of any.
func TestReadInverts(t *testing.T) {
	const greatest, limit = 4, 6
	from := map[string][]int{}
	for row := range rows(greatest, limit-1) {
		code, err := cobs.Write(row)
		if other, twice := from[fmt.Sprint(code)]; twice || err != nil {
			t.Fatalf("Write(%v) is %v, %v; so is that of %v", row, code, err, other)
		}
		from[fmt.Sprint(code)] = row
	}
	for code := range rows(greatest, limit) {
		if len(code) == 0 {
			continue
		}
		want, found := from[fmt.Sprint(code)]
		wantErr := api.OK
		if !found {
			wantErr = api.ErrSyntax
		}
		if got, err := cobs.Read(code); !slices.Equal(got, want) || plain.Told(err) != wantErr {
			t.Fatalf("Read(%v) is %v, %v; want %v, %v", code, got, err, want, wantErr)
		}
	}
}

// Z2: arguments and their spare capacity stay as they are, and results have memory of their own.
func TestMemory(t *testing.T) {
	for _, size := range []int{0, 1, 5, 254, 255} {
		check := func(name string, f func([]int) ([]int, error), l []int) {
			memory := append(slices.Clone(l), 7, 8, 9)
			before := slices.Clone(memory)
			result, err := f(memory[:len(l)])
			if err != nil {
				t.Fatalf("%s(%v): %v", name, l, err)
			}
			_ = append(result, 6, 6, 6)
			for i := range result {
				result[i] = 6
			}
			if !slices.Equal(memory, before) {
				t.Errorf("%s(%v) or a change of its result makes the memory of the argument %v", name, l, memory)
			}
		}
		check("Write", cobs.Write, sevens(size))
		check("Write", cobs.Write, append(sevens(size), 0, 1))
		check("Read", cobs.Read, spelled(sevens(size)))
		check("Read", cobs.Read, append(spelled(sevens(size)), 2, 1))
	}
}
