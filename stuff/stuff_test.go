package stuff_test

import (
	"math"
	"slices"
	"strings"
	"testing"

	"ferryhythe/api"
	"ferryhythe/plain"
	"ferryhythe/stuff"
)

// bits reads a row of bits such as "0110"; anything else than 0 and 1 is left out.
func bits(s string) []int {
	var l []int
	for _, r := range s {
		if r == '0' || r == '1' {
			l = append(l, int(r-'0'))
		}
	}
	return l
}

// written is the opposite of bits.
func written(l []int) string {
	var s strings.Builder
	for _, b := range l {
		s.WriteByte(byte('0' + b))
	}
	return s.String()
}

// rows yields every row of at most limit bits.
func rows(limit int) func(yield func(string) bool) {
	return func(yield func(string) bool) {
		level := []string{""}
		for range limit + 1 {
			var longer []string
			for _, s := range level {
				if !yield(s) {
					return
				}
				longer = append(longer, s+"0", s+"1")
			}
			level = longer
		}
	}
}

// faulty are rows that Check rejects.
var faulty = []struct {
	name string
	bits []int
	err  api.Errno
}{
	{"two", []int{2}, api.ErrRange},
	{"negative", []int{-1}, api.ErrRange},
	{"last of three", []int{0, 1, 2}, api.ErrRange},
	{"least integer", []int{1, math.MinInt, 1}, api.ErrRange},
	{"greatest integer", []int{math.MaxInt}, api.ErrRange},
	{"even in its lowest 32 bits", []int{1 << 32}, api.ErrRange},
	{"too great behind an unexpected one", append(bits("111111"), 3), api.ErrRange},
	{"too great in the place of an inserted bit", append(bits("11111"), 3), api.ErrRange},
	{"too great outside of flags", append(bits("01111110 10 01111110"), 2), api.ErrRange},
	{"last of the most", append(make([]int, api.MaxBits-1), 2), api.ErrRange},
	{"too many", make([]int, api.MaxBits+1), api.ErrFull},
	{"too many ones", slices.Repeat([]int{1}, api.MaxBits+1), api.ErrFull},
	{"too many that are no bits", slices.Repeat([]int{2}, api.MaxBits+1), api.ErrFull},
	{"too many by far", make([]int, 100*api.MaxBits), api.ErrFull},
}

// R3.1
func TestCheck(t *testing.T) {
	for _, c := range faulty {
		if err := stuff.Check(c.bits); plain.Told(err) != c.err {
			t.Errorf("%s: Check is %v; want %v", c.name, err, c.err)
		}
	}
	right := [][]int{nil, {}, {0}, {1}, bits("01111110"), bits("1111111111"), make([]int, api.MaxBits), slices.Repeat([]int{1}, api.MaxBits)}
	for _, l := range right {
		if err := stuff.Check(l); err != nil {
			t.Errorf("Check(%v) is %v; want nil", l, err)
		}
	}
}

// R3.2, R3.3, R3.5: the errors of Check.
func TestErrorsOfCheck(t *testing.T) {
	for _, c := range faulty {
		if l, err := stuff.Stuff(c.bits); len(l) > 0 || plain.Told(err) != c.err {
			t.Errorf("%s: Stuff is %v, %v; want none, %v", c.name, l, err, c.err)
		}
		if l, err := stuff.Unstuff(c.bits); len(l) > 0 || plain.Told(err) != c.err {
			t.Errorf("%s: Unstuff is %v, %v; want none, %v", c.name, l, err, c.err)
		}
		if l, err := stuff.Frames(c.bits); len(l) > 0 || plain.Told(err) != c.err {
			t.Errorf("%s: Frames is %v, %v; want none, %v", c.name, l, err, c.err)
		}
	}
}

// stuffed are bits with their Stuff.
var stuffed = []struct{ plain, stuffed string }{
	{"", ""},
	{"0", "0"},
	{"1", "1"},
	{"1111", "1111"},
	{"11110", "11110"},
	{"11111", "111110"},
	{"111110", "1111100"},
	{"111111", "1111101"},
	{"111101111", "111101111"},
	{"1111100", "11111000"},
	{"1111101", "11111001"},
	{"1111111111", "111110111110"},
	{"11111111111", "1111101111101"},
	{"111110111110", "11111001111100"},
	{"01111110", "011111010"},
	{"0111110", "01111100"},
	{strings.Repeat("1", 200), strings.Repeat("111110", 40)},
	{strings.Repeat("0", 200), strings.Repeat("0", 200)},
	{strings.Repeat("0", 195) + "11111", strings.Repeat("0", 195) + "111110"},
}

// R3.2
func TestStuff(t *testing.T) {
	for _, c := range stuffed {
		if got, err := stuff.Stuff(bits(c.plain)); written(got) != c.stuffed || err != nil {
			t.Errorf("Stuff(%s) is %s, %v; want %s", c.plain, written(got), err, c.stuffed)
		}
	}
}

// R3.2: replacing from left to right is the same.
func TestStuffReplaces(t *testing.T) {
	for row := range rows(13) {
		want := strings.ReplaceAll(row, "11111", "111110")
		if got, err := stuff.Stuff(bits(row)); written(got) != want || err != nil {
			t.Fatalf("Stuff(%s) is %s, %v; want %s", row, written(got), err, want)
		}
	}
}

// R3.3
func TestUnstuff(t *testing.T) {
	for _, c := range stuffed {
		if len(c.stuffed) > api.MaxBits {
			continue
		}
		if got, err := stuff.Unstuff(bits(c.stuffed)); written(got) != c.plain || err != nil {
			t.Errorf("Unstuff(%s) is %s, %v; want %s", c.stuffed, written(got), err, c.plain)
		}
	}
	wrong := []string{
		"11111", "111111", "1111110", "01111110", "011111", "11111011111", "111110111111", "1111101111110",
		"1111100011111", strings.Repeat("1", 200), strings.Repeat("0", 195) + "11111",
	}
	for _, row := range wrong {
		if got, err := stuff.Unstuff(bits(row)); len(got) > 0 || plain.Told(err) != api.ErrSyntax {
			t.Errorf("Unstuff(%s) is %s, %v; want none, ErrSyntax", row, written(got), err)
		}
	}
	long := bits(strings.Repeat("111110", 40))
	if got, err := stuff.Unstuff(long); len(got) > 0 || plain.Told(err) != api.ErrFull {
		t.Errorf("Unstuff of %d bits is %s, %v; want none, ErrFull", len(long), written(got), err)
	}
}

// sources maps the Stuff of every row of at most limit bits to that row.
func sources(t *testing.T, limit int) map[string]string {
	m := map[string]string{}
	for row := range rows(limit) {
		l, err := stuff.Stuff(bits(row))
		if other, twice := m[written(l)]; twice || err != nil {
			t.Fatalf("Stuff(%s) is %v, %v; so is that of %q", row, l, err, other)
		}
		m[written(l)] = row
	}
	return m
}

// R3.3: of every row, whether it is the Stuff of any.
func TestUnstuffInverts(t *testing.T) {
	const limit = 13
	from := sources(t, limit)
	for row := range rows(limit) {
		want, found := from[row]
		wantErr := api.OK
		if !found {
			wantErr = api.ErrSyntax
		}
		if got, err := stuff.Unstuff(bits(row)); written(got) != want || plain.Told(err) != wantErr {
			t.Fatalf("Unstuff(%s) is %s, %v; want %q, %v", row, written(got), err, want, wantErr)
		}
	}
}

// R3.4
func TestFlag(t *testing.T) {
	first := stuff.Flag()
	if written(first) != "01111110" {
		t.Errorf("Flag is %v", first)
	}
	first[3] = 0
	if second := stuff.Flag(); written(second) != "01111110" {
		t.Errorf("after a change of its result Flag is %v", second)
	}
	if l, err := stuff.Frames(bits("01111110 1 01111110")); len(l) != 1 || err != nil {
		t.Errorf("after a change of the result of Flag, Frames is %v, %v", l, err)
	}
}

const flag = "01111110"

// R3.5
func TestFrames(t *testing.T) {
	cases := []struct {
		name   string
		bits   string
		frames []string
	}{
		{"nothing", "", nil},
		{"no flag", "1010", nil},
		{"one flag", flag, nil},
		{"one flag within bits", "10" + flag + "10", nil},
		{"two flags", flag + flag, nil},
		{"one frame", flag + "10" + flag, []string{"10"}},
		{"bits outside of the flags", "0011" + flag + "10" + flag + "1100", []string{"10"}},
		{"one frame, the last flag unfinished", flag + "10" + flag[:7], nil},
		{"one frame, the first flag unfinished", flag[1:] + "10" + flag, nil},
		{"one flag is the end and the start of frames", flag + "10" + flag + "01" + flag, []string{"10", "01"}},
		{"two flags between frames", flag + "10" + flag + flag + "01" + flag, []string{"10", "01"}},
		{"equal frames", flag + "1" + flag + "1" + flag, []string{"1", "1"}},
		{"flags do not share a 0", flag + flag[1:], nil},
		{"flags that would share a 0", flag + flag[1:] + "1" + flag, nil},
		{"third flag would share a 0", flag + "1" + flag + flag[1:] + "0" + flag, []string{"1"}},
		{"stuffed bits", flag + "111110" + flag, []string{"11111"}},
		{"the flag stuffed", flag + "011111010" + flag, []string{flag}},
		{"bits end with 0", flag + "0" + flag, []string{"0"}},
		{"bits end with two 0s", flag + "00" + flag, []string{"00"}},
		{"five ones at the end", flag + "011111" + flag, nil},
		{"six ones at the start", flag + "1111110" + flag, nil},
		{"seven ones", flag + "011111110" + flag, nil},
		{"bad bits between good ones", flag + "1" + flag + "1111111" + flag + "00" + flag, []string{"1", "00"}},
		{"seven ones are no flag", "011111110" + flag + "1" + flag, []string{"1"}},
		{"five ones are no flag", "0111110" + flag + "1" + flag, []string{"1"}},
		{"most bits in one frame", flag + strings.Repeat("01", 92) + flag, []string{strings.Repeat("01", 92)}},
		{"only flags", strings.Repeat(flag, 25), nil},
		{"most frames", flag + strings.Repeat("1"+flag, 21), slices.Repeat([]string{"1"}, 21)},
	}
	for _, c := range cases {
		got, err := stuff.Frames(bits(c.bits))
		if !slices.Equal(writtenAll(got), c.frames) || err != nil {
			t.Errorf("%s: Frames(%s) is %v, %v; want %v", c.name, c.bits, writtenAll(got), err, c.frames)
		}
	}
}

func writtenAll(l [][]int) []string {
	var all []string
	for _, frame := range l {
		all = append(all, written(frame))
	}
	return all
}

// R3.5: of every row behind and ahead of flags, and with a flag within, what splitting at the flags gives.
func TestFramesSplit(t *testing.T) {
	from := sources(t, 12)
	for row := range rows(12) {
		half := len(row) / 2
		for _, s := range []string{row + flag + "1" + flag, flag + row + flag, flag + row[:half] + flag + row[half:] + flag} {
			want := split(s, from)
			if got, err := stuff.Frames(bits(s)); !slices.Equal(writtenAll(got), want) || err != nil {
				t.Fatalf("Frames(%s) is %v, %v; want %v", s, writtenAll(got), err, want)
			}
		}
	}
}

// split returns the sources of what is between flags, as far as there are any that are not empty.
func split(s string, from map[string]string) []string {
	parts := strings.Split(s, flag)
	var frames []string
	for _, part := range parts[1 : len(parts)-1] {
		if source := from[part]; source != "" {
			frames = append(frames, source)
		}
	}
	return frames
}

// R3.5: what Stuff returns comes back from between flags.
func TestFramesReturnStuffed(t *testing.T) {
	for row := range rows(10) {
		l, err := stuff.Stuff(bits(row))
		if err != nil {
			t.Fatal(err)
		}
		framed := slices.Concat(stuff.Flag(), l, stuff.Flag(), l, stuff.Flag())
		var want []string
		if row != "" {
			want = []string{row, row}
		}
		if got, err := stuff.Frames(framed); !slices.Equal(writtenAll(got), want) || err != nil {
			t.Fatalf("Frames(%s) is %v, %v; want %v", written(framed), writtenAll(got), err, want)
		}
	}
}

// Z2: arguments and their spare capacity stay as they are, and results have memory of their own.
func TestMemory(t *testing.T) {
	row := flag + "111110" + flag + "10" + flag
	memory := append(bits(row), 7, 8, 9)
	l := memory[:len(row)]
	frames, err := stuff.Frames(l)
	if want := []string{"11111", "10"}; !slices.Equal(writtenAll(frames), want) || err != nil {
		t.Fatalf("Frames is %v, %v; want %v", frames, err, want)
	}
	_ = append(frames[0], 5, 5, 5)
	overwrite(frames[0])
	if written(frames[1]) != "10" {
		t.Errorf("a change of the first frame makes the second %v", frames[1])
	}
	short := memory[8:14]
	for _, f := range []func([]int) ([]int, error){stuff.Stuff, stuff.Unstuff} {
		result, err := f(short)
		if err != nil {
			t.Fatal(err)
		}
		_ = append(result, 5, 5, 5)
		overwrite(result)
	}
	if want := append(bits(row), 7, 8, 9); !slices.Equal(memory, want) {
		t.Errorf("the memory of the argument is %v; want %v", memory, want)
	}
}

func overwrite(l []int) {
	for i := range l {
		l[i] = 6
	}
}
