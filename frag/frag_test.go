package frag_test

import (
	"iter"
	"math"
	"slices"
	"strings"
	"testing"

	"ferryhythe/api"
	"ferryhythe/frag"
	"ferryhythe/plain"
)

// digits is a text of n bytes of which no two neighbours are equal.
func digits(n int) string {
	return strings.Repeat("0123456789", n/10+1)[:n]
}

// more is a fragment that others follow.
func more(at int, data string) api.Part { return api.Part{At: at, More: true, Data: data} }

// last is a fragment that none follows.
func last(at int, data string) api.Part { return api.Part{At: at, Data: data} }

// same are n fragments, all equal to p.
func same(p api.Part, n int) []api.Part {
	return slices.Repeat([]api.Part{p}, n)
}

// lists yields every list of at most limit fragments of the pool.
func lists(pool []api.Part, limit int) iter.Seq[[]api.Part] {
	return func(yield func([]api.Part) bool) {
		if !yield(nil) || limit == 0 {
			return
		}
		for l := range lists(pool, limit-1) {
			for _, p := range pool {
				if !yield(append(slices.Clone(l), p)) {
					return
				}
			}
		}
	}
}

// R6.1
func TestCut(t *testing.T) {
	cases := []struct {
		name string
		text string
		size int
		want []api.Part
	}{
		{"a rest", "abc", 2, []api.Part{more(0, "ab"), last(2, "c")}},
		{"no rest", "abcd", 2, []api.Part{more(0, "ab"), last(2, "cd")}},
		{"the empty text", "", 1, []api.Part{last(0, "")}},
		{"the empty text, the greatest size", "", 200, []api.Part{last(0, "")}},
		{"a byte", "a", 1, []api.Part{last(0, "a")}},
		{"byte by byte", "abc", 1, []api.Part{more(0, "a"), more(1, "b"), last(2, "c")}},
		{"as long as the size", "abc", 3, []api.Part{last(0, "abc")}},
		{"shorter than the size", "abc", 4, []api.Part{last(0, "abc")}},
		{"shorter than the greatest size", "abc", 200, []api.Part{last(0, "abc")}},
		{"through a rune", "\u00e4", 1, []api.Part{more(0, "\xc3"), last(1, "\xa4")}},
		{"bytes that are no runes", "\xff\x00\xfe", 2, []api.Part{more(0, "\xff\x00"), last(2, "\xfe")}},
		{"most bytes, the greatest size", digits(200), 200, []api.Part{last(0, digits(200))}},
		{"most bytes, a rest of one", digits(200), 199, []api.Part{more(0, digits(199)), last(199, "9")}},
	}
	for _, c := range cases {
		if got, err := frag.Cut(c.text, c.size); !slices.Equal(got, c.want) || err != nil {
			t.Errorf("%s: Cut(%q, %d) is %v, %v; want %v", c.name, c.text, c.size, got, err, c.want)
		}
	}
}

// R6.1: of texts of every length and of every size, the fragments are those that taking bytes off the front gives.
func TestCutTakes(t *testing.T) {
	for n := range api.MaxSize + 1 {
		for size := 1; size <= api.MaxSize; size++ {
			text := digits(n)
			want, wantErr := take(text, size), api.OK
			if len(want) > api.MaxParts {
				want, wantErr = nil, api.ErrFull
			}
			got, err := frag.Cut(text, size)
			if !slices.Equal(got, want) || plain.Told(err) != wantErr {
				t.Fatalf("Cut(%q, %d) is %v, %v; want %v, %v", text, size, got, err, want, wantErr)
			}
		}
	}
}

// take takes fragments off the front of a text, until no more than one is left.
func take(text string, size int) []api.Part {
	var l []api.Part
	at := 0
	for len(text)-at > size {
		l = append(l, more(at, text[at:at+size]))
		at += size
	}
	return append(l, last(at, text[at:]))
}

// R6.1
func TestErrorsOfCut(t *testing.T) {
	cases := []struct {
		name string
		text string
		size int
		err  api.Errno
	}{
		{"one byte too many", digits(201), 200, api.ErrFull},
		{"one byte too many, a size of 0", digits(201), 0, api.ErrFull},
		{"one byte too many, a negative size", digits(201), -1, api.ErrFull},
		{"one byte too many, too great a size", digits(201), 201, api.ErrFull},
		{"one byte too many, too many fragments", digits(201), 1, api.ErrFull},
		{"too many bytes by far", digits(100_000), 5, api.ErrFull},

		{"a size of 0", "abc", 0, api.ErrRange},
		{"a size of 0 of the empty text", "", 0, api.ErrRange},
		{"a size of 0 of most bytes", digits(200), 0, api.ErrRange},
		{"a negative size", "abc", -1, api.ErrRange},
		{"too great a size", "abc", 201, api.ErrRange},
		{"too great a size of the empty text", "", 201, api.ErrRange},
		{"too great a size of most bytes", digits(200), 201, api.ErrRange},
		{"a size in its lowest bits", "abc", 1<<32 + 2, api.ErrRange},
		{"the least integer", "abc", math.MinInt, api.ErrRange},
		{"the greatest integer", "abc", math.MaxInt, api.ErrRange},

		{"one fragment too many, byte by byte", digits(41), 1, api.ErrFull},
		{"one fragment too many, by a rest", digits(161), 4, api.ErrFull},
		{"most bytes, too many fragments", digits(200), 4, api.ErrFull},
		{"most bytes, byte by byte", digits(200), 1, api.ErrFull},
	}
	for _, c := range cases {
		if got, err := frag.Cut(c.text, c.size); len(got) > 0 || plain.Told(err) != c.err {
			t.Errorf("%s: Cut is %v, %v; want none, %v", c.name, got, err, c.err)
		}
	}
}

// R6.2
func TestAgain(t *testing.T) {
	cases := []struct {
		name string
		part api.Part
		size int
		want []api.Part
	}{
		{"more behind it", more(5, "ab"), 1, []api.Part{more(5, "a"), more(6, "b")}},
		{"nothing behind it", last(5, "ab"), 1, []api.Part{more(5, "a"), last(6, "b")}},
		{"a rest", more(3, "abcde"), 2, []api.Part{more(3, "ab"), more(5, "cd"), more(7, "e")}},
		{"a rest, nothing behind it", last(3, "abcde"), 2, []api.Part{more(3, "ab"), more(5, "cd"), last(7, "e")}},
		{"not smaller", more(5, "ab"), 2, []api.Part{more(5, "ab")}},
		{"not smaller, nothing behind it", last(5, "ab"), 200, []api.Part{last(5, "ab")}},
		{"at 0", more(0, "ab"), 1, []api.Part{more(0, "a"), more(1, "b")}},
		{"empty", more(5, ""), 1, []api.Part{more(5, "")}},
		{"empty, nothing behind it", last(5, ""), 1, []api.Part{last(5, "")}},
		{"empty at the greatest offset", more(200, ""), 1, []api.Part{more(200, "")}},
		{"up to the greatest offset", last(198, "ab"), 1, []api.Part{more(198, "a"), last(199, "b")}},
		{"most bytes", more(0, digits(200)), 150, []api.Part{more(0, digits(150)), more(150, digits(50))}},
	}
	for _, c := range cases {
		if got, err := frag.Again(c.part, c.size); !slices.Equal(got, c.want) || err != nil {
			t.Errorf("%s: Again(%v, %d) is %v, %v; want %v", c.name, c.part, c.size, got, err, c.want)
		}
	}
}

// R6.2: what is cut and cut again covers the same bytes, with no other end.
func TestAgainCovers(t *testing.T) {
	text := digits(30)
	for first := 1; first <= 31; first++ {
		for second := 1; second <= 31; second++ {
			l, err := frag.Cut(text, first)
			if err != nil {
				t.Fatalf("Cut(%q, %d): %v", text, first, err)
			}
			var pieces []api.Part
			for _, p := range l {
				m, err := frag.Again(p, second)
				if err != nil {
					t.Fatalf("Again(%v, %d): %v", p, second, err)
				}
				pieces = append(pieces, m...)
			}
			at := 0
			for i, p := range pieces {
				rest := text[at:]
				if p.At != at || p.More != (i < len(pieces)-1) || p.Data == "" || len(p.Data) > second || !strings.HasPrefix(rest, p.Data) {
					t.Fatalf("cut by %d and by %d: fragment %d is %v, behind %q", first, second, i, p, text[:at])
				}
				at += len(p.Data)
			}
			if at != len(text) {
				t.Fatalf("cut by %d and by %d: only %q", first, second, text[:at])
			}
		}
	}
}

// outside are fragments that do not lie within a text of most bytes.
var outside = []struct {
	name string
	part api.Part
}{
	{"a negative offset", more(-1, "a")},
	{"a negative offset, no bytes", last(-1, "")},
	{"too great an offset", more(201, "a")},
	{"too great an offset, no bytes", last(201, "")},
	{"one byte behind the greatest offset", last(200, "a")},
	{"two bytes at the last", last(199, "ab")},
	{"one byte too many at 0", last(0, digits(201))},
	{"one byte too many behind bytes", more(50, digits(151))},
	{"too many bytes by far", more(0, digits(100_000))},
	{"an offset in its lowest bits", more(1<<32+1, "a")},
	{"the least integer", more(math.MinInt, "a")},
	{"the least integer, no bytes", last(math.MinInt, "")},
	{"the greatest integer", last(math.MaxInt, "a")},
	{"the greatest integer, no bytes", last(math.MaxInt, "")},
}

// R6.2
func TestErrorsOfAgain(t *testing.T) {
	type call struct {
		name string
		part api.Part
		size int
		err  api.Errno
	}
	cases := []call{
		{"a size of 0", more(5, "ab"), 0, api.ErrRange},
		{"a size of 0, no bytes", last(5, ""), 0, api.ErrRange},
		{"a negative size", last(5, "ab"), -1, api.ErrRange},
		{"too great a size", more(5, "ab"), 201, api.ErrRange},
		{"the least integer as size", more(5, "ab"), math.MinInt, api.ErrRange},
		{"the greatest integer as size", more(5, "ab"), math.MaxInt, api.ErrRange},

		{"one fragment too many", more(5, digits(41)), 1, api.ErrFull},
		{"most bytes, too many fragments", last(0, digits(200)), 4, api.ErrFull},
		{"too many fragments up to the greatest offset", last(159, digits(41)), 1, api.ErrFull},
	}
	for _, c := range outside {
		for _, size := range []int{-1, 0, 1, 200, 201} {
			cases = append(cases, call{c.name, c.part, size, api.ErrRange})
		}
	}
	for _, c := range cases {
		if got, err := frag.Again(c.part, c.size); len(got) > 0 || plain.Told(err) != c.err {
			t.Errorf("%s: Again by %d is %v, %v; want none, %v", c.name, c.size, got, err, c.err)
		}
	}
}

// R6.3
func TestJoin(t *testing.T) {
	cases := []struct {
		name string
		l    []api.Part
		text string
	}{
		{"not in order", []api.Part{last(2, "c"), more(0, "ab")}, "abc"},
		{"in order", []api.Part{more(0, "ab"), last(2, "c")}, "abc"},
		{"a whole text", []api.Part{last(0, "abc")}, "abc"},
		{"the empty text", []api.Part{last(0, "")}, ""},
		{"the empty text, empty fragments", []api.Part{more(0, ""), last(0, ""), more(0, ""), last(0, "")}, ""},
		{"the last one is empty", []api.Part{more(0, "abc"), last(3, "")}, "abc"},
		{"duplicates", []api.Part{more(0, "ab"), last(2, "c"), last(2, "c"), more(0, "ab")}, "abc"},
		{"overlaps", []api.Part{more(0, "abc"), last(1, "bcde"), more(2, "cd")}, "abcde"},
		{"one within another", []api.Part{last(0, "abcde"), more(2, "c")}, "abcde"},
		{"two ends at the same place", []api.Part{last(2, "c"), last(0, "abc"), last(3, "")}, "abc"},
		{"more behind the end without bytes", []api.Part{last(0, "abc"), more(1, "bc")}, "abc"},
		{"no bytes far behind the end", []api.Part{last(0, "abc"), more(200, ""), more(4, "")}, "abc"},
		{"bytes that are 0", []api.Part{more(0, "\x00"), last(1, "\x00\x00")}, "\x00\x00\x00"},
		{"bytes that are no runes", []api.Part{last(1, "\xa4\xff"), more(0, "\xc3")}, "\xc3\xa4\xff"},
		{"most bytes", []api.Part{last(0, digits(200))}, digits(200)},
		{"most bytes, not in order", []api.Part{last(199, "9"), more(0, digits(199))}, digits(200)},
		{"most bytes, an empty fragment behind them", []api.Part{last(200, ""), more(0, digits(200))}, digits(200)},
		{"most fragments", same(last(0, "abc"), 40), "abc"},
	}
	for _, c := range cases {
		if got, err := frag.Join(c.l); got != c.text || err != nil {
			t.Errorf("%s: Join(%v) is %q, %v; want %q", c.name, c.l, got, err, c.text)
		}
	}
}

// R6.3: the fragments of a text give the text: in order, backwards, and from the middle on.
func TestJoinAfterCut(t *testing.T) {
	for n := range api.MaxSize + 1 {
		for size := max(1, (n+api.MaxParts-1)/api.MaxParts); size <= api.MaxSize; size++ {
			text := digits(n)
			l := take(text, size)
			back := slices.Clone(l)
			slices.Reverse(back)
			turned := slices.Concat(l[len(l)/2:], l[:len(l)/2])
			for _, order := range [][]api.Part{l, back, turned} {
				if got, err := frag.Join(order); got != text || err != nil {
					t.Fatalf("Join(%v) is %q, %v; want %q", order, got, err, text)
				}
			}
		}
	}
}

// R6.3
func TestErrorsOfJoin(t *testing.T) {
	cases := []struct {
		name string
		l    []api.Part
		err  api.Errno
	}{
		{"one fragment too many", same(last(0, "abc"), 41), api.ErrFull},
		{"one fragment too many, outside", same(last(-1, "abc"), 41), api.ErrFull},
		{"one fragment too many, that clash", append(same(last(0, "a"), 40), last(0, "b")), api.ErrFull},
		{"one fragment too many, no end", same(more(0, "abc"), 41), api.ErrFull},
		{"too many by far", same(last(0, ""), 4000), api.ErrFull},

		{"outside behind right ones", []api.Part{more(0, "ab"), last(2, "c"), more(201, "")}, api.ErrRange},
		{"outside ahead of a clash", []api.Part{last(-1, ""), last(0, "a"), last(0, "b")}, api.ErrRange},
		{"outside after another end, ahead of a clash", []api.Part{last(0, "a"), more(-1, ""), last(0, "b")}, api.ErrRange},
		{"outside without an end", []api.Part{more(0, "a"), more(200, "a")}, api.ErrRange},
		{"outside with another end", []api.Part{last(0, "a"), last(200, "a")}, api.ErrRange},
		{"the last of most is outside", append(same(last(0, "a"), 39), last(-1, "a")), api.ErrRange},

		{"two ends", []api.Part{last(0, "a"), last(0, "ab")}, api.ErrClash},
		{"two ends, the second before", []api.Part{last(0, "ab"), last(0, "a")}, api.ErrClash},
		{"two ends without bytes", []api.Part{last(0, ""), last(1, "")}, api.ErrClash},
		{"the end is 0, then not", []api.Part{last(0, ""), last(0, "a")}, api.ErrClash},
		{"the end is the greatest, then not", []api.Part{last(200, ""), last(199, "")}, api.ErrClash},
		{"two ends, the third as the first", []api.Part{last(1, "b"), last(0, "a"), last(1, "b")}, api.ErrClash},
		{"two ends, a byte is missing", []api.Part{last(5, "a"), last(9, "b")}, api.ErrClash},
		{"two bytes at an offset", []api.Part{last(0, "a"), last(0, "b")}, api.ErrClash},
		{"two bytes at an offset, no end", []api.Part{more(0, "a"), more(0, "b")}, api.ErrClash},
		{"two bytes at an offset, the one is 0", []api.Part{last(0, "\x00"), last(0, "b")}, api.ErrClash},
		{"two bytes at an offset, the other is 0", []api.Part{last(0, "a"), last(0, "\x00")}, api.ErrClash},
		{"two bytes in the middle", []api.Part{last(0, "abcde"), more(1, "bXd")}, api.ErrClash},
		{"two bytes at the last", []api.Part{last(0, digits(200)), last(199, "x")}, api.ErrClash},
		{"two bytes of the first and the third", []api.Part{more(0, "ab"), last(2, "c"), more(1, "x")}, api.ErrClash},
		{"a clash ahead of one outside", []api.Part{last(0, "a"), last(0, "b"), last(-1, "")}, api.ErrClash},
		{"two ends ahead of one outside", []api.Part{last(0, "a"), last(5, ""), last(201, "")}, api.ErrClash},
		{"a clash, a byte is missing", []api.Part{more(5, "a"), last(5, "b")}, api.ErrClash},
		{"a clash behind the end", []api.Part{last(0, "a"), more(5, "a"), more(5, "b")}, api.ErrClash},

		{"nil", nil, api.ErrNone},
		{"empty", []api.Part{}, api.ErrNone},
		{"no end", []api.Part{more(0, "ab"), more(2, "c")}, api.ErrNone},
		{"no end, no bytes", []api.Part{more(0, "")}, api.ErrNone},
		{"no end, most bytes", []api.Part{more(0, digits(200))}, api.ErrNone},
		{"the first byte is missing", []api.Part{last(1, "b")}, api.ErrNone},
		{"a byte in the middle is missing", []api.Part{more(0, "ab"), last(3, "d")}, api.ErrNone},
		{"the last byte is missing", []api.Part{more(0, "ab"), last(3, "")}, api.ErrNone},
		{"all bytes are missing", []api.Part{last(200, "")}, api.ErrNone},
		{"an empty fragment at the missing byte", []api.Part{more(0, "a"), more(1, ""), last(2, "c")}, api.ErrNone},
		{"no end, a byte is missing", []api.Part{more(1, "b")}, api.ErrNone},
		{"a byte is missing, others behind the end", []api.Part{last(1, "b"), more(2, "c")}, api.ErrNone},
		{"all bytes are missing, others behind the end", []api.Part{last(1, ""), more(1, "c")}, api.ErrNone},

		{"a byte behind the end", []api.Part{last(0, "ab"), more(2, "c")}, api.ErrClash},
		{"a byte behind the end, ahead of it", []api.Part{more(2, "c"), last(0, "ab")}, api.ErrClash},
		{"a byte behind the empty text", []api.Part{last(0, ""), more(0, "a")}, api.ErrClash},
		{"a byte behind the empty text, ahead of it", []api.Part{more(0, "a"), last(0, "")}, api.ErrClash},
		{"across the end", []api.Part{last(0, "ab"), more(1, "bc")}, api.ErrClash},
		{"a byte far behind the end", []api.Part{last(0, "ab"), more(199, "c")}, api.ErrClash},
		{"a 0 behind the end", []api.Part{last(0, "ab"), more(2, "\x00")}, api.ErrClash},
	}
	for _, c := range cases {
		if got, err := frag.Join(c.l); got != "" || plain.Told(err) != c.err {
			t.Errorf("%s: Join is %q, %v; want none, %v", c.name, got, err, c.err)
		}
	}
	for _, c := range outside {
		l := []api.Part{last(0, "abc"), c.part}
		if got, err := frag.Join(l); got != "" || plain.Told(err) != api.ErrRange {
			t.Errorf("%s: Join is %q, %v; want none, ErrRange", c.name, got, err)
		}
	}
}

// R6.3: of every short list, what comparing every fragment with all earlier ones gives.
func TestJoinCompares(t *testing.T) {
	// The second pool is smaller, so that longer lists remain few enough.
	var pool, small []api.Part
	for at := -1; at <= 2; at++ {
		for _, data := range []string{"", "a", "b", "ab", "ba", "abc"} {
			pool = append(pool, more(at, data), last(at, data))
			if at >= 0 && len(data) < 2 {
				small = append(small, more(at, data), last(at, data))
			}
		}
	}
	check := func(l []api.Part) {
		want, wantErr := compare(l)
		if got, err := frag.Join(l); got != want || plain.Told(err) != wantErr {
			t.Fatalf("Join(%v) is %q, %v; want %q, %v", l, got, err, want, wantErr)
		}
	}
	for l := range lists(pool, 3) {
		check(l)
	}
	for l := range lists(small, 4) {
		check(l)
	}
}

// compare joins at most MaxParts fragments, as the chapter says it.
func compare(l []api.Part) (string, api.Errno) {
	end := -1
	for i, p := range l {
		if p.At < 0 || p.At > api.MaxSize || p.At+len(p.Data) > api.MaxSize {
			return "", api.ErrRange
		}
		for _, q := range l[:i] {
			if !p.More && !q.More && p.At+len(p.Data) != q.At+len(q.Data) {
				return "", api.ErrClash
			}
			for k := range len(p.Data) {
				if b, ok := byteAt(q, p.At+k); ok && b != p.Data[k] {
					return "", api.ErrClash
				}
			}
		}
		if !p.More {
			end = p.At + len(p.Data)
		}
	}
	if end < 0 {
		return "", api.ErrNone
	}
	text := ""
	for at := range end {
		i := slices.IndexFunc(l, func(p api.Part) bool { _, ok := byteAt(p, at); return ok })
		if i < 0 {
			return "", api.ErrNone
		}
		b, _ := byteAt(l[i], at)
		text += string([]byte{b})
	}
	for _, p := range l {
		if p.Data != "" && p.At+len(p.Data) > end {
			return "", api.ErrClash
		}
	}
	return text, api.OK
}

// byteAt is the byte that a fragment has at an offset of the whole text, and whether it has one.
func byteAt(p api.Part, at int) (b byte, ok bool) {
	if at < p.At || at >= p.At+len(p.Data) {
		return 0, false
	}
	return p.Data[at-p.At], true
}

// R6.4
func TestOrder(t *testing.T) {
	cases := []struct {
		name    string
		l, want []api.Part
	}{
		{"nil", nil, nil},
		{"empty", []api.Part{}, nil},
		{"one", []api.Part{more(3, "a")}, []api.Part{more(3, "a")}},
		{"backwards", []api.Part{last(2, "c"), more(0, "ab")}, []api.Part{more(0, "ab"), last(2, "c")}},
		{"in order", []api.Part{more(0, "ab"), last(2, "c")}, []api.Part{more(0, "ab"), last(2, "c")}},
		{"the same offset", []api.Part{more(1, "b"), last(1, "a"), more(1, "")}, []api.Part{more(1, "b"), last(1, "a"), more(1, "")}},
		{"the same offsets, mixed", []api.Part{more(1, "d"), last(0, "c"), last(1, "b"), more(0, "a")}, []api.Part{last(0, "c"), more(0, "a"), more(1, "d"), last(1, "b")}},
		{"duplicates", []api.Part{more(1, "b"), more(0, "a"), more(1, "b")}, []api.Part{more(0, "a"), more(1, "b"), more(1, "b")}},
		{"outside", []api.Part{last(999, "c"), more(0, ""), more(-7, "ab")}, []api.Part{more(-7, "ab"), more(0, ""), last(999, "c")}},
		{"more bytes than most", []api.Part{more(1, "a"), more(0, digits(1000))}, []api.Part{more(0, digits(1000)), more(1, "a")}},
		{"the least and the greatest integers", []api.Part{more(math.MaxInt, "a"), more(1, "b"), more(math.MinInt, "c"), more(-1, "d")}, []api.Part{more(math.MinInt, "c"), more(-1, "d"), more(1, "b"), more(math.MaxInt, "a")}},
	}
	for _, c := range cases {
		if got, err := frag.Order(c.l); !slices.Equal(got, c.want) || err != nil {
			t.Errorf("%s: Order(%v) is %v, %v; want %v", c.name, c.l, got, err, c.want)
		}
	}
}

// R6.4: lists of every length, with many fragments at each offset, in the order in which they came.
func TestOrderKeeps(t *testing.T) {
	for n := range api.MaxParts + 1 {
		for offsets := 1; offsets <= 7; offsets++ {
			var l, want []api.Part
			for i := range n {
				l = append(l, api.Part{At: i * 5 % offsets, More: i%3 == 0, Data: digits(n - i)})
			}
			for at := range offsets {
				for _, p := range l {
					if p.At == at {
						want = append(want, p)
					}
				}
			}
			if got, err := frag.Order(l); !slices.Equal(got, want) || err != nil {
				t.Fatalf("Order(%v) is %v, %v; want %v", l, got, err, want)
			}
		}
	}
}

// R6.4
func TestErrorsOfOrder(t *testing.T) {
	for _, n := range []int{41, 42, 4000} {
		for _, p := range []api.Part{last(0, "a"), more(-1, "a"), more(0, "")} {
			if got, err := frag.Order(same(p, n)); len(got) > 0 || plain.Told(err) != api.ErrFull {
				t.Errorf("Order of %d of %v is %v, %v; want none, ErrFull", n, p, got, err)
			}
		}
	}
	if got, err := frag.Order(same(last(0, "a"), 40)); !slices.Equal(got, same(last(0, "a"), 40)) || err != nil {
		t.Errorf("Order of most fragments is %v, %v", got, err)
	}
}

// Z2: arguments and their spare capacity stay as they are, and results have memory of their own.
func TestMemory(t *testing.T) {
	for _, l := range [][]api.Part{nil, {last(0, "a")}, {last(2, "c"), more(0, "ab")}, {more(0, "ab"), last(2, "c")}} {
		memory := append(slices.Clone(l), more(7, "x"), last(-1, "y"))
		before := slices.Clone(memory)
		arg := memory[:len(l)]
		frag.Join(arg)
		sorted, err := frag.Order(arg)
		if err != nil {
			t.Fatalf("Order(%v): %v", l, err)
		}
		_ = append(sorted, more(6, "z"), more(6, "z"))
		for i := range sorted {
			sorted[i] = more(6, "z")
		}
		if !slices.Equal(memory, before) {
			t.Errorf("Join or Order of %v, or a change of its result, makes the memory of the argument %v", l, memory)
		}
	}
}

// Z2: results depend only on the arguments: a call that follows others, or a change of their results, gives the same.
func TestNothingIsKept(t *testing.T) {
	l := []api.Part{last(2, "c"), more(0, "ab")}
	for range 3 {
		cut, _ := frag.Cut("abc", 2)
		again, _ := frag.Again(more(5, "ab"), 1)
		if want := []api.Part{more(0, "ab"), last(2, "c")}; !slices.Equal(cut, want) {
			t.Errorf("Cut is %v; want %v", cut, want)
		}
		if want := []api.Part{more(5, "a"), more(6, "b")}; !slices.Equal(again, want) {
			t.Errorf("Again is %v; want %v", again, want)
		}
		clear(cut)
		clear(again)
		frag.Join([]api.Part{last(0, "xyz12"), more(0, "x")})
		if got, err := frag.Join(l); got != "abc" || err != nil {
			t.Errorf("Join(%v) is %q, %v; want abc", l, got, err)
		}
	}
}
