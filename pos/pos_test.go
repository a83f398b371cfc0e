package pos_test

import (
	"math"
	"strings"
	"testing"

	"fustian/api"
	"fustian/pos"
)

const limit = 1 << 40

// shortTexts returns every text of at most size bytes over a letter, a line feed and a byte that is no UTF-8.
func shortTexts(size int) []string {
	all := []string{""}
	last := all
	for range size {
		var longer []string
		for _, text := range last {
			longer = append(longer, text+"a", text+"\n", text+"\xff")
		}
		all = append(all, longer...)
		last = longer
	}
	return all
}

// count measures a text byte by byte, independently of the package.
func count(text string) api.Pos {
	var p api.Pos
	for i := 0; i < len(text); i++ {
		p.Bytes++
		p.Col++
		if text[i] == 10 {
			p.Lines++
			p.Col = 0
		}
	}
	return p
}

// P1.1, Of.
func TestOf(t *testing.T) {
	cases := []struct {
		text string
		want api.Pos
	}{
		{"", api.Pos{}},
		{"abc", api.Pos{Bytes: 3, Lines: 0, Col: 3}},
		{"a\nbc", api.Pos{Bytes: 4, Lines: 1, Col: 2}},
		{"\n", api.Pos{Bytes: 1, Lines: 1, Col: 0}},
		{"ab\n", api.Pos{Bytes: 3, Lines: 1, Col: 0}},
		{"\n\nab", api.Pos{Bytes: 4, Lines: 2, Col: 2}},
		{"a\r\nb\rc", api.Pos{Bytes: 6, Lines: 1, Col: 3}},
		{"ä\nö€", api.Pos{Bytes: 8, Lines: 1, Col: 5}},
		{"\xff\n\x00\x80", api.Pos{Bytes: 4, Lines: 1, Col: 2}},
		{"a\u2028b\u0085c\v\f", api.Pos{Bytes: 10, Lines: 0, Col: 10}},
		{strings.Repeat("ab\n", 1000) + "abcd", api.Pos{Bytes: 3004, Lines: 1000, Col: 4}},
	}
	for _, c := range cases {
		if got := pos.Of(c.text); got != c.want {
			t.Errorf("Of(%q) = %v, want %v", c.text, got, c.want)
		}
	}
}

// P1.1, Of: all short texts, each of which has a valid extent.
func TestOfShortTexts(t *testing.T) {
	for _, text := range shortTexts(7) {
		got := pos.Of(text)
		if want := count(text); got != want {
			t.Errorf("Of(%q) = %v, want %v", text, got, want)
		}
		if !pos.May(got) {
			t.Errorf("May(Of(%q)) = false", text)
		}
	}
}

// P1.1, May.
func TestMay(t *testing.T) {
	cases := []struct {
		p    api.Pos
		want bool
	}{
		{api.Pos{}, true},
		{api.Pos{Bytes: 4, Lines: 1, Col: 2}, true},

		// Without lines, Col is Bytes.
		{api.Pos{Bytes: 3, Lines: 0, Col: 3}, true},
		{api.Pos{Bytes: 1, Lines: 0, Col: 0}, false},
		{api.Pos{Bytes: 3, Lines: 0, Col: 2}, false},
		{api.Pos{Bytes: 0, Lines: 0, Col: 1}, false},

		// With lines, Lines + Col is at most Bytes.
		{api.Pos{Bytes: 1, Lines: 1, Col: 0}, true},
		{api.Pos{Bytes: 3, Lines: 1, Col: 1}, true},
		{api.Pos{Bytes: 3, Lines: 1, Col: 2}, true},
		{api.Pos{Bytes: 3, Lines: 1, Col: 3}, false},
		{api.Pos{Bytes: 3, Lines: 3, Col: 0}, true},
		{api.Pos{Bytes: 3, Lines: 2, Col: 2}, false},
		{api.Pos{Bytes: 3, Lines: 4, Col: 0}, false},
		{api.Pos{Bytes: 0, Lines: 1, Col: 0}, false},

		// Negative fields.
		{api.Pos{Bytes: -1, Lines: 0, Col: -1}, false},
		{api.Pos{Bytes: 3, Lines: -1, Col: 3}, false},
		{api.Pos{Bytes: 3, Lines: 1, Col: -1}, false},
		{api.Pos{Bytes: -1, Lines: 0, Col: 0}, false},
		{api.Pos{Bytes: -1, Lines: 1, Col: -2}, false},
		{api.Pos{Bytes: -2, Lines: -2, Col: 0}, false},

		// Around the limit.
		{api.Pos{Bytes: limit, Lines: 0, Col: limit}, true},
		{api.Pos{Bytes: limit, Lines: limit, Col: 0}, true},
		{api.Pos{Bytes: limit, Lines: 1, Col: limit - 1}, true},
		{api.Pos{Bytes: limit, Lines: 1, Col: limit}, false},
		{api.Pos{Bytes: limit + 1, Lines: 0, Col: limit + 1}, false},
		{api.Pos{Bytes: limit + 1, Lines: limit + 1, Col: 0}, false},
		{api.Pos{Bytes: limit + 1, Lines: 1, Col: 0}, false},

		// Sums that would overflow.
		{api.Pos{Bytes: 0, Lines: math.MaxInt, Col: math.MaxInt}, false},
		{api.Pos{Bytes: 0, Lines: math.MinInt, Col: math.MinInt}, false},
		{api.Pos{Bytes: math.MaxInt, Lines: 0, Col: math.MaxInt}, false},
		{api.Pos{Bytes: math.MinInt, Lines: 0, Col: math.MinInt}, false},
		{api.Pos{Bytes: 1, Lines: math.MaxInt, Col: 1}, false},
	}
	for _, c := range cases {
		if got := pos.May(c.p); got != c.want {
			t.Errorf("May(%v) = %v, want %v", c.p, got, c.want)
		}
	}
}

// P1.1, May: the small valid extents are the extents of the short texts, and no others.
func TestMayIsOfSomeText(t *testing.T) {
	const size = 5
	extents := map[api.Pos]bool{}
	for _, text := range shortTexts(size) {
		extents[count(text)] = true
	}
	for bytes := -2; bytes <= size; bytes++ {
		for lines := -2; lines <= size+1; lines++ {
			for col := -2; col <= size+1; col++ {
				p := api.Pos{Bytes: bytes, Lines: lines, Col: col}
				if got := pos.May(p); got != extents[p] {
					t.Errorf("May(%v) = %v, want %v", p, got, extents[p])
				}
			}
		}
	}
}

// P1.1, Join.
func TestJoin(t *testing.T) {
	half := api.Pos{Bytes: limit / 2, Lines: 0, Col: limit / 2}
	feeds := api.Pos{Bytes: limit / 2, Lines: limit / 2, Col: 0}
	cases := []struct {
		a, b, want api.Pos
	}{
		{api.Pos{}, api.Pos{}, api.Pos{}},
		{api.Pos{Bytes: 4, Lines: 1, Col: 2}, api.Pos{Bytes: 1, Lines: 0, Col: 1}, api.Pos{Bytes: 5, Lines: 1, Col: 3}},
		{api.Pos{Bytes: 1, Lines: 0, Col: 1}, api.Pos{Bytes: 4, Lines: 1, Col: 2}, api.Pos{Bytes: 5, Lines: 1, Col: 2}},
		{api.Pos{Bytes: 4, Lines: 1, Col: 2}, api.Pos{}, api.Pos{Bytes: 4, Lines: 1, Col: 2}},
		{api.Pos{}, api.Pos{Bytes: 4, Lines: 1, Col: 2}, api.Pos{Bytes: 4, Lines: 1, Col: 2}},
		{api.Pos{Bytes: 3, Lines: 1, Col: 2}, api.Pos{Bytes: 1, Lines: 1, Col: 0}, api.Pos{Bytes: 4, Lines: 2, Col: 0}},
		{half, half, api.Pos{Bytes: limit, Lines: 0, Col: limit}},
		{feeds, feeds, api.Pos{Bytes: limit, Lines: limit, Col: 0}},
		{feeds, half, api.Pos{Bytes: limit, Lines: limit / 2, Col: limit / 2}},
		{half, feeds, api.Pos{Bytes: limit, Lines: limit / 2, Col: 0}},
	}
	for _, c := range cases {
		if got, e := pos.Join(c.a, c.b); got != c.want || e != api.OK {
			t.Errorf("Join(%v, %v) = %v, %v, want %v", c.a, c.b, got, e, c.want)
		}
	}
}

// P1.1, Join: arguments that are not valid, on either side.
func TestJoinInvalid(t *testing.T) {
	invalid := []api.Pos{
		{Bytes: 1, Lines: 0, Col: 0},
		{Bytes: 0, Lines: 0, Col: 1},
		{Bytes: 3, Lines: 2, Col: 2},
		{Bytes: -1, Lines: 0, Col: -1},
		{Bytes: 1, Lines: -1, Col: 1},
		{Bytes: limit + 1, Lines: 0, Col: limit + 1},
		{Bytes: math.MaxInt, Lines: math.MaxInt, Col: 0},
		{Bytes: math.MaxInt, Lines: math.MaxInt, Col: math.MaxInt},
		{Bytes: math.MinInt, Lines: math.MinInt, Col: math.MinInt},
	}
	valid := []api.Pos{
		{},
		{Bytes: 4, Lines: 1, Col: 2},
		{Bytes: 1, Lines: 0, Col: 1},
		{Bytes: limit, Lines: 0, Col: limit},
	}
	for _, bad := range invalid {
		for _, other := range append(valid, invalid...) {
			wantErrForm(t, bad, other)
			wantErrForm(t, other, bad)
		}
	}
}

// P1.1, Join: valid arguments that are too large together.
func TestJoinTooLarge(t *testing.T) {
	full := api.Pos{Bytes: limit, Lines: 0, Col: limit}
	feeds := api.Pos{Bytes: limit, Lines: limit, Col: 0}
	letter := api.Pos{Bytes: 1, Lines: 0, Col: 1}
	feed := api.Pos{Bytes: 1, Lines: 1, Col: 0}
	for _, large := range []api.Pos{full, feeds} {
		for _, other := range []api.Pos{letter, feed, full, feeds} {
			wantErrForm(t, large, other)
			wantErrForm(t, other, large)
		}
	}
}

func wantErrForm(t *testing.T, a, b api.Pos) {
	t.Helper()
	if got, e := pos.Join(a, b); got != (api.Pos{}) || e != api.ErrForm {
		t.Errorf("Join(%v, %v) = %v, %v, want zero and ErrForm", a, b, got, e)
	}
}

// P1.1, Join: it agrees with the concatenation, wherever a text is split.
func TestJoinIsConcatenation(t *testing.T) {
	for _, text := range shortTexts(6) {
		for at := range len(text) + 1 {
			got, e := pos.Join(pos.Of(text[:at]), pos.Of(text[at:]))
			if got != count(text) || e != api.OK {
				t.Errorf("Join of %q and %q = %v, %v", text[:at], text[at:], got, e)
			}
		}
	}
}

// P1.2, Find.
func TestFind(t *testing.T) {
	cases := []struct {
		text      string
		line, col int
		want      int
		code      api.Errno
	}{
		{"a\nbc", 1, 1, 3, api.OK},
		{"a\nbc", 0, 0, 0, api.OK},
		{"a\nbc", 1, 0, 2, api.OK},

		// A line ends at its line feed, which is no byte of it.
		{"a\nbc", 0, 1, 1, api.OK},
		{"a\nbc", 0, 2, 0, api.ErrNone},
		{"a\nbc", 0, 3, 0, api.ErrNone},

		// The last line ends at the end of the text.
		{"a\nbc", 1, 2, 4, api.OK},
		{"a\nbc", 1, 3, 0, api.ErrNone},
		{"abc", 0, 3, 3, api.OK},
		{"abc", 0, 4, 0, api.ErrNone},
		{"abc", 1, 0, 0, api.ErrRange},

		// The empty text has one empty line, and so has a line feed behind it.
		{"", 0, 0, 0, api.OK},
		{"", 0, 1, 0, api.ErrNone},
		{"", 1, 0, 0, api.ErrRange},
		{"a\n", 1, 0, 2, api.OK},
		{"a\n", 1, 1, 0, api.ErrNone},
		{"a\n", 2, 0, 0, api.ErrRange},
		{"\n\n", 1, 0, 1, api.OK},
		{"\n\n", 1, 1, 0, api.ErrNone},
		{"\n\n", 2, 0, 2, api.OK},
		{"\n\n", 3, 0, 0, api.ErrRange},

		// Columns are bytes, and a carriage return is an ordinary one.
		{"ä\n€b", 1, 3, 6, api.OK},
		{"ä\n€b", 0, 1, 1, api.OK},
		{"a\r\nb", 0, 2, 2, api.OK},
		{"a\rb", 1, 0, 0, api.ErrRange},

		// ErrRange comes before ErrNone.
		{"a\nbc", -1, 0, 0, api.ErrRange},
		{"a\nbc", 0, -1, 0, api.ErrRange},
		{"a\nbc", 2, 0, 0, api.ErrRange},
		{"a\nbc", 2, 9, 0, api.ErrRange},
		{"a\nbc", -1, 9, 0, api.ErrRange},
		{"a\nbc", 9, -1, 0, api.ErrRange},

		// Extreme numbers.
		{"a\nbc", math.MaxInt, 0, 0, api.ErrRange},
		{"a\nbc", math.MinInt, 0, 0, api.ErrRange},
		{"a\nbc", 1, math.MaxInt, 0, api.ErrNone},
		{"a\nbc", 1, math.MinInt, 0, api.ErrRange},
		{"a\nbc", math.MaxInt, math.MaxInt, 0, api.ErrRange},
	}
	for _, c := range cases {
		if got, e := pos.Find(c.text, c.line, c.col); got != c.want || e != c.code {
			t.Errorf("Find(%q, %d, %d) = %v, %v, want %v, %v", c.text, c.line, c.col, got, e, c.want, c.code)
		}
	}
}

// P1.2, Find: all lines and columns of short texts, and those just beside them.
func TestFindShortTexts(t *testing.T) {
	for _, text := range shortTexts(5) {
		lines := strings.Split(text, "\n")
		start := 0
		for n, line := range lines {
			for col := range len(line) + 1 {
				wantFind(t, text, n, col, start+col, api.OK)
			}
			wantFind(t, text, n, -1, 0, api.ErrRange)
			wantFind(t, text, n, len(line)+1, 0, api.ErrNone)
			start += len(line) + 1
		}
		wantFind(t, text, -1, 0, 0, api.ErrRange)
		wantFind(t, text, len(lines), 0, 0, api.ErrRange)
	}
}

func wantFind(t *testing.T, text string, line, col, want int, code api.Errno) {
	t.Helper()
	if got, e := pos.Find(text, line, col); got != want || e != code {
		t.Errorf("Find(%q, %d, %d) = %v, %v, want %v, %v", text, line, col, got, e, want, code)
	}
}

// P1.2, At.
func TestAt(t *testing.T) {
	cases := []struct {
		text string
		at   int
		want api.Pos
		code api.Errno
	}{
		{"a\nbc", 3, api.Pos{Bytes: 3, Lines: 1, Col: 1}, api.OK},
		{"a\nbc", 0, api.Pos{}, api.OK},
		{"a\nbc", 1, api.Pos{Bytes: 1, Lines: 0, Col: 1}, api.OK},
		{"a\nbc", 2, api.Pos{Bytes: 2, Lines: 1, Col: 0}, api.OK},
		{"a\nbc", 4, api.Pos{Bytes: 4, Lines: 1, Col: 2}, api.OK},
		{"a\n", 2, api.Pos{Bytes: 2, Lines: 1, Col: 0}, api.OK},
		{"ä\n", 1, api.Pos{Bytes: 1, Lines: 0, Col: 1}, api.OK},
		{"", 0, api.Pos{}, api.OK},
		{"", 1, api.Pos{}, api.ErrRange},
		{"", -1, api.Pos{}, api.ErrRange},
		{"a\nbc", 5, api.Pos{}, api.ErrRange},
		{"a\nbc", -1, api.Pos{}, api.ErrRange},
		{"a\nbc", math.MaxInt, api.Pos{}, api.ErrRange},
		{"a\nbc", math.MinInt, api.Pos{}, api.ErrRange},
	}
	for _, c := range cases {
		if got, e := pos.At(c.text, c.at); got != c.want || e != c.code {
			t.Errorf("At(%q, %d) = %v, %v, want %v, %v", c.text, c.at, got, e, c.want, c.code)
		}
	}
}

// P1.2: At and Find are each other's inverse at every offset.
func TestAtAndFind(t *testing.T) {
	for _, text := range shortTexts(6) {
		for at := range len(text) + 1 {
			p, e := pos.At(text, at)
			if p != count(text[:at]) || e != api.OK {
				t.Errorf("At(%q, %d) = %v, %v", text, at, p, e)
			}
			wantFind(t, text, p.Lines, p.Col, at, api.OK)
		}
	}
}
