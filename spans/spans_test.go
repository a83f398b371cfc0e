package spans_test

import (
	"math"
	"math/rand"
	"slices"
	"strings"
	"testing"

	"fustian/api"
	"fustian/edit"
	"fustian/spans"
)

func span(lo, hi int) api.Span { return api.Span{Lo: lo, Hi: hi} }

// set returns the spans whose ends are given in pairs.
func set(ends ...int) []api.Span {
	var l []api.Span
	for i := 0; i < len(ends); i += 2 {
		l = append(l, span(ends[i], ends[i+1]))
	}
	return l
}

// row returns count spans of one offset each, at every other offset from the given one on.
func row(count, first int) []api.Span {
	var l []api.Span
	for i := range count {
		l = append(l, span(first+2*i, first+2*i+1))
	}
	return l
}

func cut(at, count int) api.Edit       { return api.Edit{At: at, Cut: count} }
func put(at int, text string) api.Edit { return api.Edit{At: at, Put: text} }

func swap(at, count int, text string) api.Edit {
	return api.Edit{At: at, Cut: count, Put: text}
}

func long(size int) string {
	return strings.Repeat("x", size)
}

// in reports offset by offset whether l contains it; it works for valid sets of a text of the given size.
func in(size int, l []api.Span) []bool {
	has := make([]bool, size)
	for _, s := range l {
		for at := s.Lo; at < s.Hi; at++ {
			has[at] = true
		}
	}
	return has
}

// runs returns the longest spans of the offsets that has contains: the only valid set of them.
func runs(has []bool) []api.Span {
	var l []api.Span
	for at, there := range has {
		switch {
		case !there:
		case at > 0 && has[at-1]:
			l[len(l)-1].Hi++
		default:
			l = append(l, span(at, at+1))
		}
	}
	return l
}

// limited is what a function returns that finds the offsets of has.
func limited(has []bool) ([]api.Span, api.Errno) {
	l := runs(has)
	if len(l) > api.MaxSpans {
		return nil, api.ErrFull
	}
	return l, api.OK
}

// allSets returns every set of offsets of a text of the given size.
func allSets(size int) [][]api.Span {
	var all [][]api.Span
	for bits := range 1 << size {
		has := make([]bool, size)
		for at := range has {
			has[at] = bits>>at&1 == 1
		}
		all = append(all, runs(has))
	}
	return all
}

// randomSet returns a set of offsets of a text of the given size, at times with as many spans as there may be.
func randomSet(random *rand.Rand, size int) []api.Span {
	for {
		has := make([]bool, size)
		turns := 1 + random.Intn(20)
		for at := range has {
			has[at] = at > 0 && has[at-1]
			if random.Intn(turns) == 0 {
				has[at] = !has[at]
			}
		}
		if l := runs(has); len(l) <= api.MaxSpans {
			return l
		}
	}
}

// sets calls try with all small sets and with random large ones.
func sets(random *rand.Rand, try func(size int, l []api.Span)) {
	for size := range 7 {
		for _, l := range allSets(size) {
			try(size, l)
		}
	}
	for range 300 {
		size := random.Intn(api.MaxText + 1)
		try(size, randomSet(random, size))
		try(2*api.MaxSpans+10, row(api.MaxSpans, random.Intn(10)))
	}
}

// someSpans returns all spans of a short text, and random ones of a long one.
func someSpans(random *rand.Rand, size int) []api.Span {
	var all []api.Span
	if size < 7 {
		for lo := range size + 1 {
			for hi := lo; hi <= size; hi++ {
				all = append(all, span(lo, hi))
			}
		}
		return all
	}
	for range 30 {
		lo := random.Intn(size + 1)
		all = append(all, span(lo, lo+random.Intn(min(size-lo, 8)+1)), span(lo, lo+random.Intn(size-lo+1)))
	}
	return all
}

// invalid has sets that are not valid for a text of their size.
func invalid() []struct {
	name string
	size int
	l    []api.Span
} {
	return []struct {
		name string
		size int
		l    []api.Span
	}{
		{"negative size", -1, nil},
		{"least size", math.MinInt, nil},
		{"size", 601, nil},
		{"size and a span", 601, set(0, 1)},
		{"largest size", math.MaxInt, set(0, math.MaxInt)},
		{"adjacent", 3, set(0, 2, 2, 3)},
		{"overlapping", 5, set(0, 3, 2, 5)},
		{"one in the other", 5, set(0, 5, 2, 3)},
		{"equal", 5, set(1, 2, 1, 2)},
		{"not sorted", 5, set(3, 4, 0, 1)},
		{"the last two adjacent", 9, set(0, 1, 2, 3, 6, 7, 7, 9)},
		{"empty", 3, set(1, 1)},
		{"empty at the start", 3, set(0, 0)},
		{"empty behind another", 3, set(0, 1, 3, 3)},
		{"reversed", 3, set(2, 1)},
		{"reversed behind another", 9, set(0, 1, 5, 3)},
		{"behind the end", 3, set(2, 4)},
		{"last behind the end", 9, set(0, 1, 8, 10)},
		{"in the empty text", 0, set(0, 1)},
		{"negative", 3, set(-1, 2)},
		{"all of it negative", 3, set(-3, -1)},
		{"least and largest", 600, set(math.MinInt, math.MaxInt)},
		{"largest end before another", 600, set(0, math.MaxInt, 1, 2)},
		{"largest and least", 600, set(math.MaxInt, math.MinInt)},
		{"forty-one", 600, row(41, 0)},
		{"many", 600, row(300, 0)},
	}
}

// P6.1: sets at the edges of what is valid.
func TestMay(t *testing.T) {
	cases := []struct {
		name string
		size int
		l    []api.Span
	}{
		{"empty text", 0, nil},
		{"empty list", 0, []api.Span{}},
		{"no spans", 600, nil},
		{"all", 3, set(0, 3)},
		{"start", 3, set(0, 1)},
		{"end", 3, set(2, 3)},
		{"both", 3, set(0, 1, 2, 3)},
		{"largest", 600, set(0, 600)},
		{"largest gap", 600, set(0, 1, 599, 600)},
		{"forty", 79, row(40, 0)},
	}
	for _, c := range cases {
		if !spans.May(c.size, c.l) {
			t.Errorf("%s: May(%d, %v) = false", c.name, c.size, c.l)
		}
	}
	for _, c := range invalid() {
		if spans.May(c.size, c.l) {
			t.Errorf("%s: May(%d, %v) = true", c.name, c.size, c.l)
		}
	}
}

// P6.1: all lists of at most three spans, by the sentence of the document.
func TestMayOfShortLists(t *testing.T) {
	const limit = 4
	var choices []api.Span
	for lo := -1; lo <= limit+1; lo++ {
		for hi := -1; hi <= limit+1; hi++ {
			choices = append(choices, span(lo, hi))
		}
	}
	same := func(l []api.Span) {
		for size := range limit + 1 {
			want := true
			for i, s := range l {
				want = want && 0 <= s.Lo && s.Lo < s.Hi && s.Hi <= size
				want = want && (i == 0 || l[i-1].Hi < s.Lo)
			}
			if got := spans.May(size, l); got != want {
				t.Fatalf("May(%d, %v) = %v", size, l, got)
			}
		}
	}
	for _, a := range choices {
		same([]api.Span{a})
		for _, b := range choices {
			same([]api.Span{a, b})
			for _, c := range choices {
				same([]api.Span{a, b, c})
			}
		}
	}
}

// P6.1: a set that is not valid comes before every other error.
func TestInvalidSets(t *testing.T) {
	for _, c := range invalid() {
		for _, s := range set(0, 0, 0, 1, -1, 700, 3, 2) {
			if got, code := spans.Add(c.size, c.l, s); len(got) != 0 || code != api.ErrForm {
				t.Errorf("%s: Add(%d, %v, %v) = %v, %v, want ErrForm", c.name, c.size, c.l, s, got, code)
			}
			if got, code := spans.Cut(c.size, c.l, s); len(got) != 0 || code != api.ErrForm {
				t.Errorf("%s: Cut(%d, %v, %v) = %v, %v, want ErrForm", c.name, c.size, c.l, s, got, code)
			}
		}
		for _, e := range []api.Edit{{}, put(0, "x"), cut(0, 1), cut(-1, 0), put(0, long(601))} {
			if got, code := spans.Shift(c.size, c.l, e); len(got) != 0 || code != api.ErrForm {
				t.Errorf("%s: Shift(%d, %v, %v) = %v, %v, want ErrForm", c.name, c.size, c.l, e, got, code)
			}
		}
		for _, many := range []int{1, 0, -1, math.MaxInt} {
			taken, left, code := spans.Take(c.size, c.l, many)
			if taken != (api.Span{}) || len(left) != 0 || code != api.ErrForm {
				t.Errorf("%s: Take(%d, %v, %d) = %v, %v, %v, want ErrForm", c.name, c.size, c.l, many, taken, left, code)
			}
		}
	}
}

type changeCase struct {
	name string
	size int
	l    []api.Span
	s    api.Span
	want []api.Span
	code api.Errno
}

// P6.2, Add.
func TestAdd(t *testing.T) {
	l := set(2, 4, 6, 8)
	cases := []changeCase{
		{"example", 3, set(0, 2), span(2, 3), set(0, 3), api.OK},
		{"first", 3, nil, span(1, 2), set(1, 2), api.OK},
		{"to the empty text", 0, []api.Span{}, span(0, 0), nil, api.OK},
		{"empty to none", 3, nil, span(2, 2), nil, api.OK},
		{"empty in a gap", 9, l, span(5, 5), l, api.OK},
		{"empty ahead", 9, l, span(0, 0), l, api.OK},
		{"empty at an end", 9, l, span(4, 4), l, api.OK},
		{"empty at the end of the text", 9, l, span(9, 9), l, api.OK},
		{"empty inside", 9, l, span(3, 3), l, api.OK},
		{"inside", 9, l, span(7, 8), l, api.OK},
		{"ahead", 9, l, span(0, 1), set(0, 1, 2, 4, 6, 8), api.OK},
		{"touching ahead", 9, l, span(0, 2), set(0, 4, 6, 8), api.OK},
		{"touching behind", 9, l, span(8, 9), set(2, 4, 6, 9), api.OK},
		{"touching one in a gap", 9, l, span(4, 5), set(2, 5, 6, 8), api.OK},
		{"touching the next in a gap", 9, l, span(5, 6), set(2, 4, 5, 8), api.OK},
		{"touching both", 9, l, span(4, 6), set(2, 8), api.OK},
		{"touching none", 9, set(0, 2, 6, 9), span(3, 5), set(0, 2, 3, 5, 6, 9), api.OK},
		{"over all", 9, l, span(0, 9), set(0, 9), api.OK},
		{"same start", 9, l, span(2, 5), set(2, 5, 6, 8), api.OK},
		{"forty of them", 600, row(39, 0), span(100, 101), append(row(39, 0), span(100, 101)), api.OK},
		{"forty-one", 600, row(40, 0), span(100, 101), nil, api.ErrFull},
		{"forty-one ahead", 600, row(40, 2), span(0, 1), nil, api.ErrFull},
		{"full, joined", 600, row(40, 0), span(79, 600), append(row(39, 0), span(78, 600)), api.OK},
		{"full, empty", 600, row(40, 0), span(100, 100), row(40, 0), api.OK},
		{"full, over all", 600, row(40, 1), span(0, 600), set(0, 600), api.OK},
		{"behind the text", 9, l, span(8, 10), nil, api.ErrRange},
		{"empty behind the text", 9, l, span(10, 10), nil, api.ErrRange},
		{"negative", 9, l, span(-1, 3), nil, api.ErrRange},
		{"empty and negative", 9, l, span(-1, -1), nil, api.ErrRange},
		{"reversed", 9, l, span(5, 4), nil, api.ErrRange},
		{"behind the empty text", 0, nil, span(0, 1), nil, api.ErrRange},
		{"range before room", 600, row(40, 0), span(599, 601), nil, api.ErrRange},
		{"reversed before room", 600, row(40, 0), span(101, 100), nil, api.ErrRange},
		{"least and largest", 600, l, span(math.MinInt, math.MaxInt), nil, api.ErrRange},
		{"largest and least", 600, l, span(math.MaxInt, math.MinInt), nil, api.ErrRange},
	}
	for _, c := range cases {
		if got, code := spans.Add(c.size, c.l, c.s); !slices.Equal(got, c.want) || code != c.code {
			t.Errorf("%s: Add(%d, %v, %v) = %v, %v, want %v, %v", c.name, c.size, c.l, c.s, got, code, c.want, c.code)
		}
	}
}

// P6.2, Cut.
func TestCut(t *testing.T) {
	l := set(2, 5, 6, 8)
	wide := append(row(39, 0), span(100, 103))
	cases := []changeCase{
		{"example", 3, set(0, 3), span(1, 2), set(0, 1, 2, 3), api.OK},
		{"from none", 3, nil, span(1, 2), nil, api.OK},
		{"from the empty text", 0, []api.Span{}, span(0, 0), nil, api.OK},
		{"empty inside", 9, l, span(3, 3), l, api.OK},
		{"empty at a start", 9, l, span(2, 2), l, api.OK},
		{"empty at an end", 9, l, span(5, 5), l, api.OK},
		{"a gap", 9, l, span(5, 6), l, api.OK},
		{"ahead", 9, l, span(0, 2), l, api.OK},
		{"behind", 9, l, span(8, 9), l, api.OK},
		{"one whole", 9, l, span(2, 5), set(6, 8), api.OK},
		{"more than one whole", 9, l, span(5, 9), set(2, 5), api.OK},
		{"a start", 9, l, span(1, 3), set(3, 5, 6, 8), api.OK},
		{"an end", 9, l, span(4, 6), set(2, 4, 6, 8), api.OK},
		{"of both", 9, l, span(3, 7), set(2, 3, 7, 8), api.OK},
		{"all", 9, l, span(0, 9), nil, api.OK},
		{"all of a full set", 600, row(40, 1), span(0, 600), nil, api.OK},
		{"forty of them", 600, append(row(38, 0), span(100, 103)), span(101, 102), append(row(38, 0), set(100, 101, 102, 103)...), api.OK},
		{"forty-one", 600, wide, span(101, 102), nil, api.ErrFull},
		{"full, empty", 600, wide, span(101, 101), wide, api.OK},
		{"full, a start", 600, wide, span(100, 101), append(row(39, 0), span(101, 103)), api.OK},
		{"behind the text", 9, l, span(8, 10), nil, api.ErrRange},
		{"empty behind the text", 9, l, span(10, 10), nil, api.ErrRange},
		{"negative", 9, l, span(-1, 3), nil, api.ErrRange},
		{"reversed", 9, l, span(5, 4), nil, api.ErrRange},
		{"reversed inside one", 9, l, span(4, 3), nil, api.ErrRange},
		{"range before room", 102, append(row(39, 0), span(99, 102)), span(100, 103), nil, api.ErrRange},
		{"reversed before room", 600, wide, span(102, 101), nil, api.ErrRange},
		{"least and largest", 600, l, span(math.MinInt, math.MaxInt), nil, api.ErrRange},
		{"largest and least", 600, l, span(math.MaxInt, math.MinInt), nil, api.ErrRange},
	}
	for _, c := range cases {
		if got, code := spans.Cut(c.size, c.l, c.s); !slices.Equal(got, c.want) || code != c.code {
			t.Errorf("%s: Cut(%d, %v, %v) = %v, %v, want %v, %v", c.name, c.size, c.l, c.s, got, code, c.want, c.code)
		}
	}
}

// P6.2, Add and Cut: offset by offset.
func TestAddAndCutOffsetByOffset(t *testing.T) {
	random := rand.New(rand.NewSource(6))
	full := 0
	sets(random, func(size int, l []api.Span) {
		for _, s := range someSpans(random, size) {
			more, fewer := in(size, l), in(size, l)
			for at := s.Lo; at < s.Hi; at++ {
				more[at], fewer[at] = true, false
			}
			want, wantCode := limited(more)
			if wantCode == api.ErrFull {
				full++
			}
			if got, code := spans.Add(size, l, s); !slices.Equal(got, want) || code != wantCode {
				t.Fatalf("Add(%d, %v, %v) = %v, %v, want %v, %v", size, l, s, got, code, want, wantCode)
			}
			want, wantCode = limited(fewer)
			if got, code := spans.Cut(size, l, s); !slices.Equal(got, want) || code != wantCode {
				t.Fatalf("Cut(%d, %v, %v) = %v, %v, want %v, %v", size, l, s, got, code, want, wantCode)
			}
		}
	})
	if full == 0 {
		t.Error("no set was full")
	}
}

// P6.2, Take.
func TestTake(t *testing.T) {
	l := set(1, 4, 6, 8)
	cases := []struct {
		name  string
		size  int
		l     []api.Span
		many  int
		taken api.Span
		left  []api.Span
		code  api.Errno
	}{
		{"example", 3, set(0, 3), 1, span(0, 1), set(1, 3), api.OK},
		{"one", 9, l, 1, span(1, 2), set(2, 4, 6, 8), api.OK},
		{"all but one", 9, l, 2, span(1, 3), set(3, 4, 6, 8), api.OK},
		{"all of the first span", 9, l, 3, span(1, 4), set(6, 8), api.OK},
		{"not of the second span", 9, l, 4, span(1, 4), set(6, 8), api.OK},
		{"largest number", 9, l, math.MaxInt, span(1, 4), set(6, 8), api.OK},
		{"the last", 600, set(599, 600), 1, span(599, 600), nil, api.OK},
		{"largest number of a late span", 600, set(599, 600), math.MaxInt, span(599, 600), nil, api.OK},
		{"all", 600, set(0, 600), 600, span(0, 600), nil, api.OK},
		{"of a full set", 600, row(40, 0), 1, span(0, 1), row(39, 2), api.OK},
		{"nothing of no set", 9, nil, 2, api.Span{}, nil, api.ErrNone},
		{"nothing of the empty text", 0, []api.Span{}, 1, api.Span{}, nil, api.ErrNone},
		{"zero", 9, l, 0, api.Span{}, nil, api.ErrRange},
		{"negative", 9, l, -1, api.Span{}, nil, api.ErrRange},
		{"least", 9, l, math.MinInt, api.Span{}, nil, api.ErrRange},
		{"range before none", 9, nil, 0, api.Span{}, nil, api.ErrRange},
	}
	for _, c := range cases {
		taken, left, code := spans.Take(c.size, c.l, c.many)
		if taken != c.taken || !slices.Equal(left, c.left) || code != c.code {
			t.Errorf("%s: Take(%d, %v, %d) = %v, %v, %v, want %v, %v, %v", c.name, c.size, c.l, c.many, taken, left, code, c.taken, c.left, c.code)
		}
	}
}

// P6.2, Take: offset by offset, until nothing is left.
func TestTakeOffsetByOffset(t *testing.T) {
	random := rand.New(rand.NewSource(62))
	sets(random, func(size int, l []api.Span) {
		many := 1 + random.Intn(6)
		for len(l) > 0 {
			has := in(size, l)
			want := span(slices.Index(has, true), slices.Index(has, true))
			for range many {
				if want.Hi < size && has[want.Hi] {
					has[want.Hi] = false
					want.Hi++
				}
			}
			taken, left, code := spans.Take(size, l, many)
			if taken != want || !slices.Equal(left, runs(has)) || code != api.OK {
				t.Fatalf("Take(%d, %v, %d) = %v, %v, %v, want %v, %v, OK", size, l, many, taken, left, code, want, runs(has))
			}
			l = left
		}
		if taken, left, code := spans.Take(size, l, many); taken != (api.Span{}) || len(left) != 0 || code != api.ErrNone {
			t.Fatalf("Take(%d, nil, %d) = %v, %v, %v, want ErrNone", size, many, taken, left, code)
		}
	})
}

// P6.3, Shift.
func TestShift(t *testing.T) {
	l := set(1, 4, 6, 8)
	full := row(40, 1)
	cases := []struct {
		name string
		size int
		l    []api.Span
		e    api.Edit
		want []api.Span
		code api.Errno
	}{
		{"example", 0, nil, put(0, "x"), set(0, 1), api.OK},
		{"example in a text", 7, []api.Span{}, put(0, "x"), set(0, 1), api.OK},
		{"no effect", 9, l, cut(2, 0), l, api.OK},
		{"no effect at a start", 9, l, cut(6, 0), l, api.OK},
		{"no effect on the empty text", 0, nil, api.Edit{}, nil, api.OK},
		{"in a gap", 9, l, put(5, "ab"), set(1, 4, 5, 7, 8, 10), api.OK},
		{"at a start", 9, l, put(6, "ab"), set(1, 4, 6, 10), api.OK},
		{"at an end", 9, l, put(4, "ab"), set(1, 6, 8, 10), api.OK},
		{"inside", 9, l, put(2, "ab"), set(1, 6, 8, 10), api.OK},
		{"ahead of all", 9, l, put(0, "ab"), set(0, 2, 3, 6, 8, 10), api.OK},
		{"behind all", 9, l, put(9, "ab"), set(1, 4, 6, 8, 9, 11), api.OK},
		{"removed inside", 9, l, cut(2, 1), set(1, 3, 5, 7), api.OK},
		{"removed gap", 9, l, cut(4, 2), set(1, 6), api.OK},
		{"removed part of a gap", 9, l, cut(4, 1), set(1, 4, 5, 7), api.OK},
		{"removed ahead", 9, l, cut(0, 1), set(0, 3, 5, 7), api.OK},
		{"removed behind", 9, l, cut(8, 1), l, api.OK},
		{"removed span", 9, l, cut(1, 3), set(3, 5), api.OK},
		{"removed ends", 9, l, cut(3, 4), set(1, 4), api.OK},
		{"removed all", 9, l, cut(0, 9), nil, api.OK},
		{"replaced ends", 9, l, swap(3, 4, "ab"), set(1, 6), api.OK},
		{"replaced gap", 9, l, swap(4, 2, "x"), set(1, 7), api.OK},
		{"replaced in a gap", 12, set(0, 2, 8, 9), swap(4, 2, "abc"), set(0, 2, 4, 7, 9, 10), api.OK},
		{"replaced all", 9, l, swap(0, 9, "x"), set(0, 1), api.OK},
		{"to the limit", 600, set(599, 600), swap(0, 1, "x"), set(0, 1, 599, 600), api.OK},
		{"all of the largest text", 0, nil, put(0, long(600)), set(0, 600), api.OK},
		{"forty of them", 100, row(39, 1), put(90, "x"), append(row(39, 1), span(90, 91)), api.OK},
		{"forty-one", 100, full, put(90, "x"), nil, api.ErrFull},
		{"forty-one ahead", 100, full, put(0, "x"), nil, api.ErrFull},
		{"forty-one by a replacement", 100, full, swap(90, 3, "x"), nil, api.ErrFull},
		{"full, joined", 100, full, put(1, "x"), append(set(1, 3), row(39, 4)...), api.OK},
		{"full, one replaced", 100, full, swap(1, 1, "xy"), append(set(1, 3), row(39, 4)...), api.OK},
		{"full, removed", 100, full, cut(0, 1), row(40, 0), api.OK},
		{"full, no effect in a gap", 100, full, cut(90, 0), full, api.OK},
		{"edit behind the text", 9, l, cut(8, 2), nil, api.ErrRange},
		{"negative offset", 9, l, put(-1, "x"), nil, api.ErrRange},
		{"negative count", 9, l, cut(3, -1), nil, api.ErrRange},
		{"overflow", 9, l, cut(1, math.MaxInt), nil, api.ErrRange},
		{"overflow of the offset", 9, l, cut(math.MaxInt, 1), nil, api.ErrRange},
		{"least numbers", 9, l, cut(math.MinInt, math.MinInt), nil, api.ErrRange},
		{"too large", 600, l, put(0, "x"), nil, api.ErrSize},
		{"range before size", 600, l, put(601, "x"), nil, api.ErrRange},
		{"range before room", 600, full, put(601, "x"), nil, api.ErrRange},
		{"size before room", 600, full, put(90, "x"), nil, api.ErrSize},
	}
	for _, c := range cases {
		if got, code := spans.Shift(c.size, c.l, c.e); !slices.Equal(got, c.want) || code != c.code {
			t.Errorf("%s: Shift(%d, %v, %v) = %v, %v, want %v, %v", c.name, c.size, c.l, c.e, got, code, c.want, c.code)
		}
	}
}

// shiftedOffsets moves the set offset by offset with edit.Place.
func shiftedOffsets(size int, l []api.Span, e api.Edit) []bool {
	has := make([]bool, size-e.Cut+len(e.Put))
	for i := range len(e.Put) {
		has[e.At+i] = true
	}
	for at, there := range in(size, l) {
		if there && (at < e.At || at >= e.At+e.Cut) {
			place, _ := edit.Place(e, at, true)
			has[place] = true
		}
	}
	return has
}

// P6.3, Shift: offset by offset; the result is a set of the text that the edit produces.
func TestShiftOffsetByOffset(t *testing.T) {
	random := rand.New(rand.NewSource(63))
	full := 0
	sets(random, func(size int, l []api.Span) {
		for _, s := range someSpans(random, size) {
			for _, text := range []string{"", "x", "xyz"} {
				e := swap(s.Lo, s.Hi-s.Lo, text)
				if edit.Check(size, e) != api.OK {
					continue
				}
				want, wantCode := limited(shiftedOffsets(size, l, e))
				if wantCode == api.ErrFull {
					full++
				}
				got, code := spans.Shift(size, l, e)
				if !slices.Equal(got, want) || code != wantCode {
					t.Fatalf("Shift(%d, %v, %v) = %v, %v, want %v, %v", size, l, e, got, code, want, wantCode)
				}
				if !spans.May(size-e.Cut+len(e.Put), got) {
					t.Fatalf("Shift(%d, %v, %v) = %v, which is not valid", size, l, e, got)
				}
			}
		}
	})
	if full == 0 {
		t.Error("no set was full")
	}
}

// P6.3, Widen.
func TestWiden(t *testing.T) {
	text := "ab\ncd\n\ne"
	cases := []struct {
		name string
		text string
		s    api.Span
		want api.Span
		code api.Errno
	}{
		{"example", "ab\ncd", span(1, 1), span(0, 3), api.OK},
		{"empty text", "", span(0, 0), span(0, 0), api.OK},
		{"one line", "abc", span(1, 2), span(0, 3), api.OK},
		{"start", text, span(0, 0), span(0, 3), api.OK},
		{"a line feed", text, span(2, 2), span(0, 3), api.OK},
		{"over a line feed", text, span(2, 3), span(0, 6), api.OK},
		{"start of a line", text, span(3, 3), span(3, 6), api.OK},
		{"a whole line", text, span(3, 6), span(3, 7), api.OK},
		{"two lines", text, span(1, 4), span(0, 6), api.OK},
		{"an empty line", text, span(6, 6), span(6, 7), api.OK},
		{"last line", text, span(7, 8), span(7, 8), api.OK},
		{"end", text, span(8, 8), span(7, 8), api.OK},
		{"all", text, span(0, 8), span(0, 8), api.OK},
		{"to the last line", text, span(4, 7), span(3, 8), api.OK},
		{"behind the last line feed", "ab\n", span(3, 3), span(3, 3), api.OK},
		{"at the last line feed", "ab\n", span(1, 2), span(0, 3), api.OK},
		{"over the last line feed", "ab\n", span(1, 3), span(0, 3), api.OK},
		{"only a line feed", "\n", span(0, 0), span(0, 1), api.OK},
		{"other line ends", "a\rb\x0bc\u2028d", span(2, 3), span(0, 9), api.OK},
		{"any bytes", "\xff\n\x80\x00\n", span(3, 3), span(2, 5), api.OK},
		{"largest text", long(600), span(600, 600), span(0, 600), api.OK},
		{"behind the text", text, span(8, 9), api.Span{}, api.ErrRange},
		{"empty behind the text", text, span(9, 9), api.Span{}, api.ErrRange},
		{"negative", text, span(-1, 2), api.Span{}, api.ErrRange},
		{"reversed", text, span(3, 2), api.Span{}, api.ErrRange},
		{"least and largest", text, span(math.MinInt, math.MaxInt), api.Span{}, api.ErrRange},
		{"largest and least", text, span(math.MaxInt, math.MinInt), api.Span{}, api.ErrRange},
		{"too long", long(601), span(0, 0), api.Span{}, api.ErrSize},
		{"size before range", long(601), span(-1, 602), api.Span{}, api.ErrSize},
	}
	for _, c := range cases {
		if got, code := spans.Widen(c.text, c.s); got != c.want || code != c.code {
			t.Errorf("%s: Widen(%q, %v) = %v, %v, want %v, %v", c.name, c.text, c.s, got, code, c.want, c.code)
		}
	}
}

// P6.3, Widen: all short texts, byte by byte.
func TestWidenByteByByte(t *testing.T) {
	for size := range 7 {
		for bits := range 1 << size {
			text := ""
			for at := range size {
				text += string("a\n"[bits>>at&1])
			}
			for _, s := range someSpans(nil, size) {
				want := s
				for want.Lo > 0 && text[want.Lo-1] != '\n' {
					want.Lo--
				}
				for want.Hi < size && text[want.Hi] != '\n' {
					want.Hi++
				}
				want.Hi = min(want.Hi+1, size)
				if got, code := spans.Widen(text, s); got != want || code != api.OK {
					t.Fatalf("Widen(%q, %v) = %v, %v, want %v, OK", text, s, got, code, want)
				}
			}
		}
	}
}

// Lists stay as they are, beyond their end too, and results are new memory in each call.
func TestListsAreNotShared(t *testing.T) {
	all := set(1, 4, 6, 8, 10, 12, 14, 15, 16, 17)
	before := slices.Clone(all)
	l := all[:3]
	take := func(many int) func() []api.Span {
		return func() []api.Span { _, left, _ := spans.Take(20, l, many); return left }
	}
	add := func(s api.Span) func() []api.Span {
		return func() []api.Span { got, _ := spans.Add(20, l, s); return got }
	}
	remove := func(s api.Span) func() []api.Span {
		return func() []api.Span { got, _ := spans.Cut(20, l, s); return got }
	}
	shift := func(e api.Edit) func() []api.Span {
		return func() []api.Span { got, _ := spans.Shift(20, l, e); return got }
	}
	calls := []func() []api.Span{
		take(1), take(3),
		add(span(5, 5)), add(span(0, 1)), add(span(4, 6)), add(span(13, 20)),
		remove(span(5, 5)), remove(span(2, 3)), remove(span(6, 8)), remove(span(12, 20)),
		shift(api.Edit{}), shift(put(20, "x")), shift(put(0, "x")), shift(cut(5, 4)),
	}
	for i, call := range calls {
		first := call()
		want := slices.Clone(first)
		second := call()
		clear(second[:cap(second)])
		if len(first) == 0 || !slices.Equal(first, want) {
			t.Errorf("call %d: its first result became %v, want %v", i, first, want)
		}
		clear(first[:cap(first)])
		if !slices.Equal(all, before) {
			t.Fatalf("call %d: the set was changed to %v", i, all)
		}
	}
}
