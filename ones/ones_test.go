package ones_test

import (
	"math"
	"slices"
	"testing"

	"ferryhythe/api"
	"ferryhythe/ones"
	"ferryhythe/plain"
)

// repeat returns n elements, all equal to b.
func repeat(b, n int) []int {
	return slices.Repeat([]int{b}, n)
}

// header is an IPv4 header whose checksum, b861, is left 0.
var header = []int{0x45, 0x00, 0x00, 0x73, 0x00, 0x00, 0x40, 0x00, 0x40, 0x11, 0x00, 0x00, 0xc0, 0xa8, 0x00, 0x01, 0xc0, 0xa8, 0x00, 0xc7}

// sumCases are bytes with their ones' complement sum, or the error for them.
var sumCases = []struct {
	name  string
	bytes []int
	sum   int
	err   api.Errno
}{
	{"nil", nil, 0, api.OK},
	{"empty", []int{}, 0, api.OK},
	{"one zero", []int{0}, 0, api.OK},
	{"one byte is the upper half of a word", []int{1}, 256, api.OK},
	{"upper byte first", []int{1, 2}, 258, api.OK},
	{"odd number of bytes", []int{1, 2, 3}, 1026, api.OK},
	{"zeros", repeat(0, 6), 0, api.OK},
	{"65535 is not reduced", []int{255, 255}, 65535, api.OK},
	{"65535 reached by adding", []int{255, 254, 0, 1}, 65535, api.OK},
	{"65536 becomes 1", []int{255, 255, 0, 1}, 1, api.OK},
	{"65536 reached with a padded byte", []int{255, 0, 1}, 1, api.OK},
	{"65535 twice", repeat(255, 4), 65535, api.OK},
	{"65535 with a padded byte", repeat(255, 3), 65280, api.OK},
	{"several carries", []int{0x00, 0x01, 0xf2, 0x03, 0xf4, 0xf5, 0xf6, 0xf7}, 0xddf2, api.OK},
	{"header without its checksum", header, 65535 - 0xb861, api.OK},
	{"most bytes", repeat(255, api.MaxBytes), 65535, api.OK},
	{"most bytes but one", repeat(1, api.MaxBytes-1), 299*257 + 256 - 65535, api.OK},
	{"too many bytes", repeat(0, api.MaxBytes+1), 0, api.ErrFull},
	{"too many elements that are no bytes", repeat(256, api.MaxBytes+1), 0, api.ErrFull},
	{"most bytes, the last one too great", append(repeat(0, api.MaxBytes-1), 256), 0, api.ErrRange},
	{"256", []int{256}, 0, api.ErrRange},
	{"negative", []int{-1}, 0, api.ErrRange},
	{"negative behind bytes", []int{1, 2, 3, -1}, 0, api.ErrRange},
	{"least integer", []int{math.MinInt}, 0, api.ErrRange},
	{"greatest integer", []int{0, math.MaxInt}, 0, api.ErrRange},
	{"a word is no byte", []int{65535, 0}, 0, api.ErrRange},
}

// R1.1
func TestSum(t *testing.T) {
	for _, c := range sumCases {
		want := 0
		if c.err == api.OK {
			want = 65535 - c.sum
		}
		got, err := ones.Sum(c.bytes)
		if got != want || plain.Told(err) != c.err {
			t.Errorf("%s: Sum is %d, %v; want %d, %v", c.name, got, err, want, c.err)
		}
	}
}

// R1.2
func TestGood(t *testing.T) {
	for _, c := range sumCases {
		want := c.err == api.OK && c.sum == 65535
		got, err := ones.Good(c.bytes)
		if got != want || plain.Told(err) != c.err {
			t.Errorf("%s: Good is %t, %v; want %t, %v", c.name, got, err, want, c.err)
		}
	}
}

// samples yields rows of bytes of every permitted even length.
func samples(yield func([]int) bool) {
	seed := uint32(1)
	for n := 0; n <= api.MaxBytes; n += 2 {
		l := make([]int, n)
		for i := range l {
			seed = seed*1664525 + 1013904223
			l[i] = int(seed >> 24)
		}
		if !yield(l) {
			return
		}
	}
}

// R1.1: 65535 is 0 modulo 65535, which gives the sum without adding step by step.
func TestSumIsRemainder(t *testing.T) {
	for l := range samples {
		plainSum := 0
		for i, b := range l {
			plainSum += b << (8 * (1 - i%2))
		}
		want := 65535 - plainSum%65535
		if plainSum > 0 && plainSum%65535 == 0 {
			want = 0
		}
		if got, err := ones.Sum(l); got != want || err != nil {
			t.Fatalf("Sum(%v) is %d, %v; want %d", l, got, err, want)
		}
	}
}

// R1.2: bytes followed by their Sum are good, and no longer so after a change.
func TestGoodWithSum(t *testing.T) {
	for l := range samples {
		sum, err := ones.Sum(l)
		if err != nil || len(l)+2 > api.MaxBytes {
			continue
		}
		l = append(l, sum/256, sum%256)
		if good, err := ones.Good(l); !good || err != nil {
			t.Fatalf("Good(%v) is %t, %v; want true", l, good, err)
		}
		l[len(l)/2] ^= 16
		if good, err := ones.Good(l); good || err != nil {
			t.Fatalf("Good(%v) is %t, %v; want false", l, good, err)
		}
	}
}

// R1.3
func TestMend(t *testing.T) {
	cases := []struct {
		sum, was, is int
		want         int
		err          api.Errno
	}{
		{64509, 258, 259, 64508, api.OK},
		{64509, 258, 258, 64509, api.OK},
		{64509, 259, 258, 64510, api.OK},
		{0, 0, 0, 0, api.OK},
		{65535, 65535, 0, 65535, api.OK},
		{65535, 0, 0, 0, api.OK},
		{65535, 65535, 65535, 0, api.OK},
		{0, 65535, 0, 0, api.OK},
		{0, 0, 65535, 0, api.OK},
		{0, 0, 1, 65534, api.OK},
		{65534, 1, 0, 0, api.OK},
		{0xdd2f, 0x5555, 0x3285, 0, api.OK},
		{-1, 0, 0, 0, api.ErrRange},
		{0, -1, 0, 0, api.ErrRange},
		{0, 0, -1, 0, api.ErrRange},
		{65536, 1, 2, 0, api.ErrRange},
		{1, 65536, 2, 0, api.ErrRange},
		{1, 2, 65536, 0, api.ErrRange},
		{math.MinInt, math.MaxInt, 0, 0, api.ErrRange},
		{1, math.MinInt, 2, 0, api.ErrRange},
		{1, 2, math.MaxInt, 0, api.ErrRange},
	}
	for _, c := range cases {
		got, err := ones.Mend(c.sum, c.was, c.is)
		if got != c.want || plain.Told(err) != c.err {
			t.Errorf("Mend(%d, %d, %d) is %d, %v; want %d, %v", c.sum, c.was, c.is, got, err, c.want, c.err)
		}
	}
}

// R1.3: Mend agrees with Sum over the changed bytes, as long as these are not all 0.
func TestMendAgreesWithSum(t *testing.T) {
	for l := range samples {
		if len(l) < 4 {
			continue
		}
		before, _ := ones.Sum(l)
		i := len(l) / 4 * 2
		was := l[i]*256 + l[i+1]
		l[i], l[i+1] = l[i+1], l[i]^1
		want, _ := ones.Sum(l)
		got, err := ones.Mend(before, was, l[i]*256+l[i+1])
		if got != want || err != nil {
			t.Fatalf("%d bytes: Mend is %d, %v; want %d", len(l), got, err, want)
		}
	}
}

// Z2: arguments and their spare capacity stay as they are.
func TestArgumentsStay(t *testing.T) {
	memory := []int{1, 2, 3, 77, 78}
	l := memory[:3]
	for range 2 {
		if sum, err := ones.Sum(l); sum != 64509 || err != nil {
			t.Errorf("Sum(%v) is %d, %v; want 64509", l, sum, err)
		}
		if good, err := ones.Good(l); good || err != nil {
			t.Errorf("Good(%v) is %t, %v; want false", l, good, err)
		}
	}
	if want := []int{1, 2, 3, 77, 78}; !slices.Equal(memory, want) {
		t.Errorf("the memory of the argument is %v; want %v", memory, want)
	}
}
