package lines_test

import (
	"math"
	"math/rand"
	"slices"
	"strings"
	"testing"

	"fustian/api"
	"fustian/lines"
)

func cut(at, count int) api.Edit       { return api.Edit{At: at, Cut: count} }
func put(at int, text string) api.Edit { return api.Edit{At: at, Put: text} }

func swap(at, count int, text string) api.Edit {
	return api.Edit{At: at, Cut: count, Put: text}
}

func long(size int) string {
	return strings.Repeat("x", size)
}

func feeds(count int) string {
	return strings.Repeat("\n", count)
}

// upTo returns the numbers from 0 to last.
func upTo(last int) []int {
	var all []int
	for i := range last + 1 {
		all = append(all, i)
	}
	return all
}

// plainStarts splits the text, independently of the package.
func plainStarts(text string) []int {
	var starts []int
	at := 0
	for _, line := range strings.Split(text, "\n") {
		starts = append(starts, at)
		at += len(line) + 1
	}
	return starts
}

// plainLine returns the number of line feeds ahead of the offset at.
func plainLine(text string, at int) int {
	return strings.Count(text[:min(at, len(text))], "\n")
}

// shortTexts returns every text of at most size bytes out of the letters.
func shortTexts(size int, letters string) []string {
	all := []string{""}
	last := all
	for range size {
		var longer []string
		for _, text := range last {
			for i := range len(letters) {
				longer = append(longer, text+letters[i:i+1])
			}
		}
		all = append(all, longer...)
		last = longer
	}
	return all
}

// P8.1: the starts of ordinary texts and of those at the limit.
func TestStarts(t *testing.T) {
	cases := []struct {
		name string
		text string
		want []int
	}{
		{"empty text", "", []int{0}},
		{"one line", "abc", []int{0}},
		{"example", "a\nb", []int{0, 2}},
		{"empty line", "ab\n\nc", []int{0, 3, 4}},
		{"one line feed", "\n", []int{0, 1}},
		{"line feed at the start", "\nab", []int{0, 1}},
		{"line feed at the end", "ab\n", []int{0, 3}},
		{"only line feeds", "\n\n\n", []int{0, 1, 2, 3}},
		{"no other separator", "a\rb\vc\fd\x00e\u0085f\u2028g", []int{0}},
		{"carriage returns stay in the line", "a\r\nb\n\rc", []int{0, 3, 5}},
		{"bytes, not characters", "ä\nö\n€", []int{0, 3, 6}},
		{"not valid as characters", "\xe2\n\xff\n\x8a", []int{0, 2, 4}},
		{"bytes that only end in 10", "\x8a\x1a\u010a\u0a0a", []int{0}},
		{"largest line", long(600), []int{0}},
		{"largest text", long(599) + "\n", []int{0, 600}},
		{"most lines", feeds(600), upTo(600)},
	}
	for _, c := range cases {
		if got, code := lines.Starts(c.text); !slices.Equal(got, c.want) || code != api.OK {
			t.Errorf("%s: Starts(%q) = %v, %v, want %v, OK", c.name, c.text, got, code, c.want)
		}
	}
}

// P8.1: its error, beside which there are no starts.
func TestStartsErrors(t *testing.T) {
	for _, text := range []string{long(601), feeds(601), long(600) + "\n", long(100000)} {
		if got, code := lines.Starts(text); len(got) != 0 || code != api.ErrSize {
			t.Errorf("Starts of %d bytes = %v, %v, want ErrSize", len(text), got, code)
		}
	}
}

// P8.1 and P8.2: the starts of every short text are valid for its size, and Line counts its line feeds.
func TestShortTexts(t *testing.T) {
	for _, text := range shortTexts(8, "a\n") {
		starts, code := lines.Starts(text)
		if want := plainStarts(text); !slices.Equal(starts, want) || code != api.OK {
			t.Fatalf("Starts(%q) = %v, %v, want %v, OK", text, starts, code, want)
		}
		if got, code := lines.Update(starts, len(text), api.Edit{}); !slices.Equal(got, starts) || code != api.OK {
			t.Fatalf("Update(%v, %d, no effect) = %v, %v, want the same, OK", starts, len(text), got, code)
		}
		for at := range len(text) + 3 {
			if got, code := lines.Line(starts, at); got != plainLine(text, at) || code != api.OK {
				t.Fatalf("Line(%v, %d) = %d, %v, want %d, OK", starts, at, got, code, plainLine(text, at))
			}
		}
	}
}

// How far a list of starts is valid: not for any size, for MaxText and not for the size beside it, or for both.
const (
	never = iota
	larger
	both
)

// formCases are lists of starts with a size; valid is what P8.1 says of them.
var formCases = []struct {
	name   string
	starts []int
	size   int
	valid  int
}{
	{"nil", nil, 5, never},
	{"empty list", []int{}, 5, never},
	{"nil in the empty text", nil, 0, never},
	{"one line of the empty text", []int{0}, 0, both},
	{"one line", []int{0}, 5, both},
	{"not from 0", []int{1}, 5, never},
	{"not from 0, more lines", []int{1, 2}, 5, never},
	{"from a negative start", []int{-1}, 5, never},
	{"from a negative start to 0", []int{-1, 0, 2}, 5, never},
	{"from the least start", []int{math.MinInt, 0}, 5, never},
	{"0 twice", []int{0, 0}, 5, never},
	{"a start twice", []int{0, 3, 3}, 5, never},
	{"a start twice in between", []int{0, 2, 2, 4}, 5, never},
	{"decreasing", []int{0, 3, 2}, 5, never},
	{"decreasing in between", []int{0, 3, 1, 4}, 5, never},
	{"decreasing to a negative start", []int{0, 3, -1}, 5, never},
	{"negative behind 0", []int{0, -1}, 5, never},
	{"least behind 0", []int{0, math.MinInt}, 5, never},
	{"every offset", upTo(5), 5, both},
	{"last line at the end", []int{0, 5}, 5, both},
	{"last line behind the end", []int{0, 6}, 5, larger},
	{"far behind the end in between", []int{0, 600, 5}, 5, never},
	{"second line of the empty text", []int{0, 1}, 0, larger},
	{"last line at the limit", []int{0, 600}, 600, both},
	{"last line behind the limit", []int{0, 601}, 600, never},
	{"most lines", upTo(600), 600, both},
	{"too many lines", upTo(601), 600, never},
	{"most lines of less", upTo(600), 599, larger},
	{"largest start", []int{0, math.MaxInt}, 600, never},
}

// P8.1: which lists of starts are valid for a size, as Update and Line tell.
func TestValidStarts(t *testing.T) {
	for _, c := range formCases {
		want := api.ErrForm
		var same []int
		if c.valid == both {
			want, same = api.OK, c.starts
		}
		got, code := lines.Update(c.starts, c.size, api.Edit{})
		if code != want || !slices.Equal(got, same) {
			t.Errorf("%s: Update(%v, %d, no effect) = %v, %v, want %v", c.name, c.starts, c.size, got, code, want)
		}
	}
}

// P8.1: every short list of small numbers.
func TestShortLists(t *testing.T) {
	isValid := func(starts []int, size int) bool {
		increasing := slices.IsSorted(starts) && len(slices.Compact(slices.Clone(starts))) == len(starts)
		return len(starts) > 0 && starts[0] == 0 && increasing && slices.Max(starts) <= size
	}
	var extend func(starts []int)
	extend = func(starts []int) {
		for size := -1; size <= 3; size++ {
			want := api.ErrForm
			if isValid(starts, size) {
				want = api.OK
			}
			if _, code := lines.Update(starts, size, api.Edit{}); code != want {
				t.Fatalf("Update(%v, %d, no effect) = %v, want %v", starts, size, code, want)
			}
		}
		want := api.ErrForm
		if isValid(starts, api.MaxText) {
			want = api.OK
		}
		if _, code := lines.Line(starts, 1); code != want {
			t.Fatalf("Line(%v, 1) = %v, want %v", starts, code, want)
		}
		if len(starts) == 4 {
			return
		}
		for start := -1; start <= 4; start++ {
			extend(append(starts, start))
		}
	}
	extend(make([]int, 0, 4))
}

// P8.2, Update: ordinary edits, and starts at the edges of what they remove.
func TestUpdate(t *testing.T) {
	cases := []struct {
		name   string
		starts []int
		size   int
		e      api.Edit
		want   []int
	}{
		{"example", []int{0}, 2, put(1, "\n"), []int{0, 2}},
		{"replacement", []int{0, 3, 4}, 5, swap(1, 2, "x\ny\n"), []int{0, 3, 5, 6}},
		{"no effect", []int{0, 2, 4}, 5, cut(2, 0), []int{0, 2, 4}},
		{"into the empty text", []int{0}, 0, put(0, "a\nb"), []int{0, 2}},
		{"all is removed", []int{0, 1, 3, 5}, 5, cut(0, 5), []int{0}},
		{"all is replaced", []int{0, 1, 3, 5}, 5, swap(0, 5, "\na\n"), []int{0, 1, 3}},
		{"a start at the edit stays", []int{0, 2}, 4, put(2, "x"), []int{0, 2}},
		{"a start at a removal stays", []int{0, 2}, 4, cut(2, 2), []int{0, 2}},
		{"a start behind the edit moves", []int{0, 3}, 4, put(2, "xy"), []int{0, 5}},
		{"a start within a removal goes", []int{0, 3}, 5, cut(2, 2), []int{0}},
		{"a start at the end of a removal goes", []int{0, 3}, 5, cut(2, 1), []int{0}},
		{"a start behind a removal moves", []int{0, 4}, 5, cut(2, 1), []int{0, 3}},
		{"a start moves to the removal", []int{0, 4}, 5, cut(0, 3), []int{0, 1}},
		{"around a removal", []int{0, 1, 2, 3, 4, 5, 6}, 6, cut(2, 2), []int{0, 1, 2, 3, 4}},
		{"around a replacement", []int{0, 1, 2, 3, 4, 5, 6}, 6, swap(2, 2, "a\nb"), []int{0, 1, 2, 4, 6, 7}},
		{"the first line feed", []int{0, 1, 2}, 2, cut(0, 1), []int{0, 1}},
		{"the last line feed", []int{0, 1, 2}, 2, cut(1, 1), []int{0, 1}},
		{"0 stays where a text is inserted", []int{0, 2}, 3, put(0, "ab"), []int{0, 4}},
		{"a line feed at the start", []int{0, 2}, 3, put(0, "\n"), []int{0, 1, 3}},
		{"a line feed at the end", []int{0, 2}, 3, put(3, "\n"), []int{0, 2, 4}},
		{"behind the last line feed", []int{0, 3}, 3, put(3, "\n"), []int{0, 3, 4}},
		{"replaced by a line feed", []int{0}, 3, swap(1, 1, "\n"), []int{0, 2}},
		{"a line feed by itself", []int{0, 2}, 3, swap(1, 1, "\n"), []int{0, 2}},
		{"no other separator", []int{0}, 2, put(1, "\r\v\f\u0085\u2028\x8a"), []int{0}},
		{"to the limit", []int{0, 600}, 600, swap(0, 600, feeds(600)), upTo(600)},
		{"most lines are removed", upTo(600), 600, cut(0, 600), []int{0}},
		{"the last of most lines", upTo(600), 600, swap(599, 1, "x"), upTo(599)},
	}
	for _, c := range cases {
		if got, code := lines.Update(c.starts, c.size, c.e); !slices.Equal(got, c.want) || code != api.OK {
			t.Errorf("%s: Update(%v, %d, {%d %d %q}) = %v, %v, want %v, OK", c.name, c.starts, c.size, c.e.At, c.e.Cut, c.e.Put, got, code, c.want)
		}
	}
}

// P8.2, Update: its errors in order, beside which there are no starts.
func TestUpdateErrors(t *testing.T) {
	one := []int{0}
	cases := []struct {
		name   string
		starts []int
		size   int
		e      api.Edit
		want   api.Errno
	}{
		{"starts before the range of the edit", []int{0, 3, 3}, 5, cut(6, 0), api.ErrForm},
		{"starts before a negative offset", nil, 5, cut(-1, 0), api.ErrForm},
		{"starts before the result", []int{0, 601}, 600, put(0, "x"), api.ErrForm},
		{"starts that only the result has", []int{0, 6}, 5, put(5, "\n"), api.ErrForm},
		{"negative size", one, -1, api.Edit{}, api.ErrForm},
		{"negative size and offset", one, -1, cut(-1, 0), api.ErrForm},
		{"least size", one, math.MinInt, api.Edit{}, api.ErrForm},
		{"size", one, 601, api.Edit{}, api.ErrRange},
		{"size and a start at the limit", []int{0, 600}, 601, api.Edit{}, api.ErrRange},
		{"size and a start behind the limit", []int{0, 601}, 601, api.Edit{}, api.ErrForm},
		{"size of which enough is removed", one, 601, cut(0, 600), api.ErrRange},
		{"size before the result", one, 601, put(0, "x"), api.ErrRange},
		{"largest size", one, math.MaxInt, api.Edit{}, api.ErrRange},
		{"largest size and start", []int{0, math.MaxInt}, math.MaxInt, api.Edit{}, api.ErrForm},
		{"negative offset", one, 5, cut(-1, 1), api.ErrRange},
		{"negative count", one, 5, cut(1, -1), api.ErrRange},
		{"past the end", one, 5, cut(4, 2), api.ErrRange},
		{"behind the end", one, 5, put(6, "\n"), api.ErrRange},
		{"overflow", one, 5, cut(1, math.MaxInt), api.ErrRange},
		{"overflow of the offset", one, 5, cut(math.MaxInt, 1), api.ErrRange},
		{"least numbers", one, 5, cut(math.MinInt, math.MinInt), api.ErrRange},
		{"range before the result", one, 600, put(601, "x"), api.ErrRange},
		{"result", one, 600, put(0, "x"), api.ErrSize},
		{"result of a replacement", one, 600, swap(0, 600, feeds(601)), api.ErrSize},
		{"result of the empty text", one, 0, put(0, feeds(601)), api.ErrSize},
		{"largest result", one, 599, put(0, "x"), api.OK},
	}
	for _, c := range cases {
		got, code := lines.Update(c.starts, c.size, c.e)
		if code != c.want || code != api.OK && len(got) != 0 {
			t.Errorf("%s: Update(%v, %d, {%d %d, %d bytes}) = %v, %v, want %v", c.name, c.starts, c.size, c.e.At, c.e.Cut, len(c.e.Put), got, code, c.want)
		}
	}
}

// sameAfter compares the starts of text, updated for e, with those of the text after it, and returns both.
func sameAfter(t *testing.T, text string, starts []int, e api.Edit) (string, []int) {
	t.Helper()
	after := text[:e.At] + e.Put + text[e.At+e.Cut:]
	got, code := lines.Update(starts, len(text), e)
	if want := plainStarts(after); !slices.Equal(got, want) || code != api.OK {
		t.Fatalf("Update(%v, %d, {%d %d %q}) = %v, %v, want %v, OK: %q becomes %q", starts, len(text), e.At, e.Cut, e.Put, got, code, want, text, after)
	}
	return after, got
}

// P8.2, Update: every edit of every short text.
func TestUpdateOfShortTexts(t *testing.T) {
	puts := shortTexts(3, "b\n")
	for _, text := range shortTexts(6, "a\n") {
		starts := plainStarts(text)
		for at := range len(text) + 1 {
			for count := range len(text) - at + 1 {
				for _, inserted := range puts {
					sameAfter(t, text, starts, swap(at, count, inserted))
				}
			}
		}
	}
}

// randomText returns a text of at most size bytes, about one line feed to three other bytes.
func randomText(random *rand.Rand, size int) string {
	text := make([]byte, random.Intn(size+1))
	for i := range text {
		text[i] = "ab\n\xff"[random.Intn(4)]
	}
	return string(text)
}

// P8.2: long series of edits, each on the starts that the previous one led to, and lines in between.
func TestRandomSeries(t *testing.T) {
	random := rand.New(rand.NewSource(8))
	full := 0
	for range 300 {
		text := randomText(random, api.MaxText)
		starts, code := lines.Starts(text)
		if want := plainStarts(text); !slices.Equal(starts, want) || code != api.OK {
			t.Fatalf("Starts(%q) = %v, %v, want %v, OK", text, starts, code, want)
		}
		for range 100 {
			at := random.Intn(len(text) + 1)
			e := cut(at, random.Intn(min(len(text)-at, 30)+1))
			e.Put = randomText(random, min(api.MaxText-len(text)+e.Cut, 40))
			text, starts = sameAfter(t, text, starts, e)
			offset := random.Intn(len(text) + 2)
			if got, code := lines.Line(starts, offset); got != plainLine(text, offset) || code != api.OK {
				t.Fatalf("Line(%v, %d) = %d, %v, want %d, OK", starts, offset, got, code, plainLine(text, offset))
			}
			if len(text) == api.MaxText {
				full++
			}
		}
	}
	if full == 0 {
		t.Error("no text was full")
	}
}

// P8.2, Line: offsets at, before and behind the starts, and behind every text.
func TestLine(t *testing.T) {
	some := []int{0, 3, 4, 600}
	cases := []struct {
		name   string
		starts []int
		at     int
		want   int
	}{
		{"example", []int{0, 2}, 1, 0},
		{"one line", []int{0}, 0, 0},
		{"behind one line", []int{0}, 600, 0},
		{"first start", some, 0, 0},
		{"before the second start", some, 2, 0},
		{"second start", some, 3, 1},
		{"third start", some, 4, 2},
		{"behind the third start", some, 5, 2},
		{"before the last start", some, 599, 2},
		{"last start", some, 600, 3},
		{"behind the limit", some, 601, 3},
		{"largest offset", some, math.MaxInt, 3},
		{"largest offset in one line", []int{0}, math.MaxInt, 0},
		{"the middle of most lines", upTo(600), 300, 300},
		{"the last of most lines", upTo(600), 600, 600},
		{"behind most lines", upTo(600), 1000, 600},
	}
	for _, c := range cases {
		if got, code := lines.Line(c.starts, c.at); got != c.want || code != api.OK {
			t.Errorf("%s: Line(%v, %d) = %d, %v, want %d, OK", c.name, c.starts, c.at, got, code, c.want)
		}
	}
}

// P8.2, Line: its errors in order, beside which the line is 0; the size of the starts is the limit.
func TestLineErrors(t *testing.T) {
	for _, c := range formCases {
		for _, at := range []int{math.MinInt, -1, 0, 2, 600, math.MaxInt} {
			want := api.OK
			switch {
			case c.valid == never:
				want = api.ErrForm
			case at < 0:
				want = api.ErrRange
			}
			got, code := lines.Line(c.starts, at)
			if code != want || code != api.OK && got != 0 {
				t.Errorf("%s: Line(%v, %d) = %d, %v, want %v", c.name, c.starts, at, got, code, want)
			}
		}
	}
}

// Lists stay as they are, beyond their end too, and results are new memory in each call.
func TestListsAreNotShared(t *testing.T) {
	edits := []api.Edit{{}, put(1, "\n"), put(9, "\n"), cut(0, 9), cut(1, 2), swap(3, 2, "\n\n\n\n")}
	for _, e := range edits {
		all := []int{0, 2, 4, 6, 7, 8}
		before := slices.Clone(all)
		starts := all[:3]
		got, _ := lines.Update(starts, 9, e)
		want := slices.Clone(got)
		other, _ := lines.Update(starts, 9, e)
		clear(other[:cap(other)])
		lines.Line(starts, 5)
		if !slices.Equal(got, want) {
			t.Errorf("%v: the first result became %v, want %v", e, got, want)
		}
		for i := range got[:cap(got)] {
			got[:cap(got)][i] = -1
		}
		if !slices.Equal(all, before) {
			t.Errorf("%v: the starts were changed to %v", e, all)
		}
	}
	first, _ := lines.Starts("a\nb")
	second, _ := lines.Starts("a\nb")
	clear(second[:cap(second)])
	if !slices.Equal(first, []int{0, 2}) {
		t.Errorf("the first result of Starts became %v", first)
	}
}
