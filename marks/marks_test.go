package marks_test

import (
	"math"
	"math/rand"
	"slices"
	"strings"
	"testing"

	"fustian/api"
	"fustian/edit"
	"fustian/marks"
)

func left(at int) api.Mark  { return api.Mark{At: at} }
func right(at int) api.Mark { return api.Mark{At: at, Right: true} }

func cut(at, count int) api.Edit       { return api.Edit{At: at, Cut: count} }
func put(at int, text string) api.Edit { return api.Edit{At: at, Put: text} }

func swap(at, count int, text string) api.Edit {
	return api.Edit{At: at, Cut: count, Put: text}
}

func long(size int) string {
	return strings.Repeat("x", size)
}

// bothSides returns a mark without Right and one with Right at every offset of a text of the given size.
func bothSides(size int) []api.Mark {
	var all []api.Mark
	for at := range size + 1 {
		all = append(all, left(at), right(at))
	}
	return all
}

// shortLists returns every list of at most count marks out of the choices.
func shortLists(count int, choices []api.Mark) [][]api.Mark {
	all := [][]api.Mark{nil}
	last := all
	for range count {
		var longer [][]api.Mark
		for _, ms := range last {
			for _, m := range choices {
				longer = append(longer, append(slices.Clone(ms), m))
			}
		}
		all = append(all, longer...)
		last = longer
	}
	return all
}

// P5.1: ordinary edits, and marks at the edges of what they remove.
func TestMove(t *testing.T) {
	cases := []struct {
		name string
		size int
		ms   []api.Mark
		l    []api.Edit
		want []api.Mark
	}{
		{"nothing", 0, nil, nil, nil},
		{"empty lists", 0, []api.Mark{}, []api.Edit{}, nil},
		{"no marks", 3, nil, []api.Edit{put(1, "x")}, nil},
		{"no edits", 3, []api.Mark{right(3), left(0), left(3)}, nil, []api.Mark{right(3), left(0), left(3)}},
		{"example", 1, []api.Mark{right(1)}, []api.Edit{put(1, "x")}, []api.Mark{right(2)}},
		{"example without Right", 1, []api.Mark{left(1)}, []api.Edit{put(1, "x")}, []api.Mark{left(1)}},
		{"example of two words", 7, []api.Mark{right(4), left(4)}, []api.Edit{put(4, "big ")}, []api.Mark{right(8), left(4)}},
		{"empty text", 0, []api.Mark{left(0), right(0)}, []api.Edit{put(0, "ab")}, []api.Mark{left(0), right(2)}},
		{"around a replacement", 9, []api.Mark{left(2), right(2), left(3), right(3), left(4), right(4), left(5), right(5), left(9), right(9)}, []api.Edit{swap(3, 2, "abc")},
			[]api.Mark{left(2), right(2), left(3), right(6), left(3), right(6), left(6), right(6), left(10), right(10)}},
		{"all is removed", 3, bothSides(3), []api.Edit{cut(0, 3)}, []api.Mark{left(0), right(0), left(0), right(0), left(0), right(0), left(0), right(0)}},
		{"no effect", 2, bothSides(2), []api.Edit{cut(1, 0)}, bothSides(2)},
		{"equal marks", 2, []api.Mark{right(1), right(1), left(1), left(1)}, []api.Edit{put(1, "xy")}, []api.Mark{right(3), right(3), left(1), left(1)}},
		{"not sorted", 4, []api.Mark{left(4), left(0), left(2)}, []api.Edit{put(1, "x")}, []api.Mark{left(5), left(0), left(3)}},
		{"in order", 4, []api.Mark{left(2), right(2)}, []api.Edit{put(2, "ab"), put(4, "c"), cut(0, 1)}, []api.Mark{left(1), right(4)}},
		{"not undone", 4, []api.Mark{left(1), right(1), left(2), right(2)}, []api.Edit{cut(1, 2), put(1, "bc")}, []api.Mark{left(1), right(3), left(1), right(3)}},
		{"behind what was inserted", 1, []api.Mark{left(1), right(1)}, []api.Edit{put(1, "a"), put(2, "b"), put(3, "c")}, []api.Mark{left(1), right(4)}},
		{"to the limit", 600, []api.Mark{left(600), right(0)}, []api.Edit{cut(0, 600), put(0, long(600))}, []api.Mark{left(0), right(600)}},
	}
	for _, c := range cases {
		got, code := marks.Move(c.size, c.ms, c.l)
		if !slices.Equal(got, c.want) || code != api.OK {
			t.Errorf("%s: Move(%d, %v, %d edits) = %v, %v, want %v, OK", c.name, c.size, c.ms, len(c.l), got, code, c.want)
		}
	}
}

// P5.1: the errors in order, beside which there are no marks.
func TestMoveErrors(t *testing.T) {
	someMarks := func(count int, m api.Mark) []api.Mark { return slices.Repeat([]api.Mark{m}, count) }
	someEdits := func(count int, e api.Edit) []api.Edit { return slices.Repeat([]api.Edit{e}, count) }
	one := someMarks(1, left(0))
	cases := []struct {
		name string
		size int
		ms   []api.Mark
		l    []api.Edit
		want api.Errno
	}{
		{"sixty marks", 2, someMarks(60, left(1)), nil, api.OK},
		{"sixty-one marks", 2, someMarks(61, left(1)), nil, api.ErrSize},
		{"sixty edits", 2, one, someEdits(60, cut(1, 0)), api.OK},
		{"sixty-one edits", 2, one, someEdits(61, cut(1, 0)), api.ErrSize},
		{"sixty-one edits and no mark", 2, nil, someEdits(61, cut(1, 0)), api.ErrSize},
		{"sixty of both", 2, someMarks(60, right(2)), someEdits(60, put(2, "x")), api.OK},
		{"number of marks before their range", 2, someMarks(61, left(3)), nil, api.ErrSize},
		{"number of marks before the size", 601, someMarks(61, left(0)), nil, api.ErrSize},
		{"number of edits before the marks", 2, someMarks(1, left(3)), someEdits(61, cut(0, 0)), api.ErrSize},
		{"number of edits before the size", -1, nil, someEdits(61, cut(0, 0)), api.ErrSize},
		{"number of edits before the edits", 2, one, someEdits(61, cut(3, 0)), api.ErrSize},
		{"mark at the end", 2, someMarks(1, left(2)), nil, api.OK},
		{"mark behind the end", 2, someMarks(1, left(3)), nil, api.ErrRange},
		{"mark with Right behind the end", 2, someMarks(1, right(3)), nil, api.ErrRange},
		{"mark behind the end of the empty text", 0, someMarks(1, left(1)), nil, api.ErrRange},
		{"negative mark", 2, someMarks(1, left(-1)), nil, api.ErrRange},
		{"least mark", 600, someMarks(1, left(math.MinInt)), nil, api.ErrRange},
		{"largest mark", 600, someMarks(1, right(math.MaxInt)), nil, api.ErrRange},
		{"the last of sixty marks", 2, append(someMarks(59, left(2)), left(3)), nil, api.ErrRange},
		{"mark that is in the text later", 2, someMarks(1, left(3)), someEdits(1, put(0, "x")), api.ErrRange},
		{"largest size", 600, someMarks(1, left(600)), nil, api.OK},
		{"size", 601, nil, nil, api.ErrRange},
		{"size and a mark", 601, someMarks(1, left(601)), nil, api.ErrRange},
		{"negative size", -1, nil, nil, api.ErrRange},
		{"negative size and mark", -1, someMarks(1, left(-1)), nil, api.ErrRange},
		{"least size", math.MinInt, nil, nil, api.ErrRange},
		{"largest size and mark", math.MaxInt, someMarks(1, left(math.MaxInt)), nil, api.ErrRange},
		{"mark before an edit", 600, someMarks(1, left(601)), someEdits(1, put(0, "x")), api.ErrRange},
		{"size before an edit", 601, nil, someEdits(1, put(0, "x")), api.ErrRange},
		{"edit out of range", 2, one, someEdits(1, cut(1, 2)), api.ErrRange},
		{"edit out of range and no mark", 2, nil, someEdits(1, cut(3, 0)), api.ErrRange},
		{"negative offset of an edit", 2, one, someEdits(1, cut(-1, 1)), api.ErrRange},
		{"negative count of an edit", 2, one, someEdits(1, cut(1, -1)), api.ErrRange},
		{"overflow", 2, one, someEdits(1, cut(1, math.MaxInt)), api.ErrRange},
		{"result", 600, one, someEdits(1, put(0, "x")), api.ErrSize},
		{"result and no mark", 0, nil, someEdits(1, put(0, long(601))), api.ErrSize},
		{"range before result", 600, one, someEdits(1, put(601, "x")), api.ErrRange},
		{"valid only for the first text", 2, one, []api.Edit{cut(0, 1), cut(1, 1)}, api.ErrRange},
		{"valid only for the second text", 2, one, []api.Edit{put(0, "c"), cut(0, 3)}, api.OK},
		{"too large in between", 600, one, []api.Edit{put(0, "x"), cut(0, 1)}, api.ErrSize},
		{"too large in the end", 599, one, []api.Edit{put(0, "x"), put(0, "x")}, api.ErrSize},
		{"large in the end", 600, one, []api.Edit{cut(0, 1), put(0, "x")}, api.OK},
		{"the first of two, range", 600, one, []api.Edit{cut(0, 0), cut(601, 0), put(0, "x")}, api.ErrRange},
		{"the first of two, result", 600, one, []api.Edit{cut(0, 0), put(0, "x"), cut(-1, 0)}, api.ErrSize},
		{"the last of sixty edits", 0, one, append(someEdits(59, cut(0, 0)), cut(0, 1)), api.ErrRange},
	}
	for _, c := range cases {
		got, code := marks.Move(c.size, c.ms, c.l)
		if code != c.want || code != api.OK && len(got) != 0 {
			t.Errorf("%s: Move(%d, %d marks, %d edits) = %v, %v, want %v", c.name, c.size, len(c.ms), len(c.l), got, code, c.want)
		}
	}
}

// letters has a letter for each byte of a text, and one behind them for its end.
const letters = "abcdef$"

// P5.1: after one edit a mark is before the letter that it was before, unless that is removed or a text is inserted there.
func TestMoveFollowsBytes(t *testing.T) {
	size := len(letters) - 1
	for at := range size + 1 {
		for count := range size - at + 1 {
			for _, text := range []string{"", "X", "XYZ"} {
				after := letters[:at] + text + letters[at+count:]
				ms := bothSides(size)
				got, code := marks.Move(size, ms, []api.Edit{swap(at, count, text)})
				if len(got) != len(ms) || code != api.OK {
					t.Fatalf("Move(%d, %v, {%d %d %q}) = %v, %v", size, ms, at, count, text, got, code)
				}
				for i, m := range ms {
					want := m
					want.At = strings.IndexByte(after, letters[m.At])
					if want.At < 0 || m.At == at {
						want.At = at
						if m.Right {
							want.At += len(text)
						}
					}
					if got[i] != want {
						t.Errorf("{%d %d %q} moves %v to %v, want %v", at, count, text, m, got[i], want)
					}
				}
			}
		}
	}
}

// randomEdit returns a valid edit of a text of the given size, and the size after it.
func randomEdit(random *rand.Rand, size int) (api.Edit, int) {
	at := random.Intn(size + 1)
	e := cut(at, random.Intn(min(size-at, 20)+1))
	room := api.MaxText - size + e.Cut
	e.Put = long(random.Intn(min(room, 20) + 1))
	return e, size - e.Cut + len(e.Put)
}

// P5.1: long lists, mark by mark with edit.Place.
func TestMoveRandomLists(t *testing.T) {
	random := rand.New(rand.NewSource(5))
	for range 500 {
		size := random.Intn(api.MaxText + 1)
		var ms []api.Mark
		for range random.Intn(api.MaxMarks + 1) {
			ms = append(ms, api.Mark{At: random.Intn(size + 1), Right: random.Intn(2) == 1})
		}
		want := slices.Clone(ms)
		var l []api.Edit
		last := size
		for range random.Intn(api.MaxEdits + 1) {
			var e api.Edit
			e, last = randomEdit(random, last)
			l = append(l, e)
			for i, m := range want {
				want[i].At, _ = edit.Place(e, m.At, m.Right)
			}
		}
		got, code := marks.Move(size, ms, l)
		if !slices.Equal(got, want) || code != api.OK {
			t.Fatalf("Move(%d, %v, %v) = %v, %v, want %v, OK", size, ms, l, got, code, want)
		}
	}
}

// P5.2, Order.
func TestOrder(t *testing.T) {
	cases := []struct {
		name string
		ms   []api.Mark
		want []int
	}{
		{"none", nil, nil},
		{"empty list", []api.Mark{}, nil},
		{"one", []api.Mark{right(7)}, []int{0}},
		{"example", []api.Mark{left(3), left(1)}, []int{1, 0}},
		{"sorted", []api.Mark{left(1), right(1), left(2)}, []int{0, 1, 2}},
		{"without Right first", []api.Mark{right(1), left(1)}, []int{1, 0}},
		{"offset before Right", []api.Mark{left(2), right(1)}, []int{1, 0}},
		{"otherwise by index", []api.Mark{right(1), left(1), right(1), left(1), left(0)}, []int{4, 1, 3, 0, 2}},
		{"offsets of no text", []api.Mark{left(601), left(-1), right(-1), left(600)}, []int{1, 2, 3, 0}},
		{"least and largest", []api.Mark{left(math.MaxInt), left(0), left(math.MinInt), left(-1), right(math.MinInt)}, []int{2, 4, 3, 1, 0}},
	}
	for _, c := range cases {
		if got, code := marks.Order(c.ms); !slices.Equal(got, c.want) || code != api.OK {
			t.Errorf("%s: Order(%v) = %v, %v, want %v, OK", c.name, c.ms, got, code, c.want)
		}
	}
}

// P5.2, Order: many marks at few offsets, which only an order by index too puts in one way.
func TestOrderOfManyMarks(t *testing.T) {
	var ms []api.Mark
	for i := range api.MaxMarks {
		ms = append(ms, api.Mark{At: i % 3, Right: i%2 == 0})
	}
	var want []int
	for _, m := range bothSides(2) {
		for i := range ms {
			if ms[i] == m {
				want = append(want, i)
			}
		}
	}
	if got, code := marks.Order(ms); !slices.Equal(got, want) || code != api.OK {
		t.Errorf("Order(%v) = %v, %v, want %v, OK", ms, got, code, want)
	}
	if got, code := marks.Order(append(ms, left(0))); len(got) != 0 || code != api.ErrSize {
		t.Errorf("Order of 61 marks = %v, %v, want ErrSize", got, code)
	}
}

// P5.2, Order: the lists of at most four marks, by counting for each mark those ahead of it.
func TestOrderOfShortLists(t *testing.T) {
	ahead := func(a, b api.Mark, byIndex bool) bool {
		if a.At != b.At {
			return a.At < b.At
		}
		if a.Right != b.Right {
			return b.Right
		}
		return byIndex
	}
	for _, ms := range shortLists(4, bothSides(2)) {
		want := make([]int, len(ms))
		for i, m := range ms {
			place := 0
			for j, other := range ms {
				if j != i && ahead(other, m, j < i) {
					place++
				}
			}
			want[place] = i
		}
		if got, code := marks.Order(ms); !slices.Equal(got, want) || code != api.OK {
			t.Fatalf("Order(%v) = %v, %v, want %v, OK", ms, got, code, want)
		}
	}
}

// P5.2, Near.
func TestNear(t *testing.T) {
	example := []api.Mark{left(3), left(1)}
	same := []api.Mark{left(5), right(2), left(2), right(2), left(0)}
	edges := []api.Mark{left(math.MaxInt), right(math.MinInt), left(-1)}
	cases := []struct {
		name  string
		ms    []api.Mark
		at    int
		right bool
		want  int
		code  api.Errno
	}{
		{"example", example, 2, true, 0, api.OK},
		{"example to the left", example, 2, false, 1, api.OK},
		{"at a mark", example, 1, true, 1, api.OK},
		{"at a mark to the left", example, 3, false, 0, api.OK},
		{"before all", example, 0, true, 1, api.OK},
		{"before all to the left", example, 0, false, 0, api.ErrNone},
		{"behind all", example, 4, true, 0, api.ErrNone},
		{"behind all to the left", example, 4, false, 0, api.OK},
		{"smallest index, not the one without Right", same, 1, true, 1, api.OK},
		{"smallest index to the left", same, 3, false, 1, api.OK},
		{"smallest index at the offset", same, 2, true, 1, api.OK},
		{"smallest index at the offset to the left", same, 2, false, 1, api.OK},
		{"no marks", nil, 0, true, 0, api.ErrNone},
		{"no marks to the left", []api.Mark{}, 0, false, 0, api.ErrNone},
		{"negative offset", example, -7, true, 1, api.OK},
		{"negative offset to the left", example, -7, false, 0, api.ErrNone},
		{"least offset", edges, math.MinInt, true, 1, api.OK},
		{"least offset to the left", edges, math.MinInt, false, 1, api.OK},
		{"largest offset", edges, math.MaxInt, true, 0, api.OK},
		{"largest offset to the left", edges, math.MaxInt, false, 0, api.OK},
		{"far from the largest mark", edges, 0, true, 0, api.OK},
		{"far from the least mark", edges, -2, false, 1, api.OK},
		{"least offset without a mark", example, math.MinInt, false, 0, api.ErrNone},
		{"largest offset without a mark", example, math.MaxInt, true, 0, api.ErrNone},
	}
	for _, c := range cases {
		if got, code := marks.Near(c.ms, c.at, c.right); got != c.want || code != c.code {
			t.Errorf("%s: Near(%v, %d, %v) = %d, %v, want %d, %v", c.name, c.ms, c.at, c.right, got, code, c.want, c.code)
		}
	}
}

// P5.2, Near: the number of marks is checked before whether there is one.
func TestNearErrors(t *testing.T) {
	ms := slices.Repeat([]api.Mark{left(3)}, api.MaxMarks+1)
	for _, toRight := range []bool{false, true} {
		for at := range 7 {
			if got, code := marks.Near(ms, at, toRight); got != 0 || code != api.ErrSize {
				t.Errorf("Near of 61 marks at %d, %v = %d, %v, want ErrSize", at, toRight, got, code)
			}
		}
		if got, code := marks.Near(ms[1:], 3, toRight); got != 0 || code != api.OK {
			t.Errorf("Near of 60 marks, %v = %d, %v, want 0, OK", toRight, got, code)
		}
	}
}

// nearest looks at offset after offset up to limit, away from at, for the first mark.
func nearest(ms []api.Mark, at, limit int, toRight bool) (int, api.Errno) {
	step := -1
	if toRight {
		step = 1
	}
	for ; -1 <= at && at <= limit; at += step {
		for i, m := range ms {
			if m.At == at {
				return i, api.OK
			}
		}
	}
	return 0, api.ErrNone
}

// sameNear fails the test unless Near gives what nearest gives around all offsets up to limit.
func sameNear(t *testing.T, ms []api.Mark, limit int) {
	t.Helper()
	for at := -1; at <= limit; at++ {
		for _, toRight := range []bool{false, true} {
			want, wantCode := nearest(ms, at, limit, toRight)
			if got, code := marks.Near(ms, at, toRight); got != want || code != wantCode {
				t.Fatalf("Near(%v, %d, %v) = %d, %v, want %d, %v", ms, at, toRight, got, code, want, wantCode)
			}
		}
	}
}

// P5.2, Near: all short lists, and random long ones.
func TestNearOffsetByOffset(t *testing.T) {
	for _, ms := range shortLists(4, bothSides(2)) {
		sameNear(t, ms, 3)
	}
	random := rand.New(rand.NewSource(52))
	for range 300 {
		var ms []api.Mark
		for range random.Intn(api.MaxMarks + 1) {
			ms = append(ms, api.Mark{At: random.Intn(40), Right: random.Intn(2) == 1})
		}
		sameNear(t, ms, 41)
	}
}

// Lists stay as they are, beyond their end too, and results are new memory in each call.
func TestListsAreNotShared(t *testing.T) {
	allMarks := []api.Mark{right(3), left(1), right(1), left(9), left(9)}
	allEdits := []api.Edit{put(1, "xy"), cut(0, 1), put(0, "beyond")}
	marksBefore, editsBefore := slices.Clone(allMarks), slices.Clone(allEdits)
	ms, l := allMarks[:3], allEdits[:2]
	for _, edits := range [][]api.Edit{nil, l} {
		first, _ := marks.Move(4, ms, edits)
		want := slices.Clone(first)
		second, _ := marks.Move(4, ms, edits)
		clear(second[:cap(second)])
		if !slices.Equal(first, want) {
			t.Errorf("the moved marks were changed to %v", first)
		}
	}
	order, _ := marks.Order(ms)
	want := slices.Clone(order)
	again, _ := marks.Order(ms)
	clear(again[:cap(again)])
	if !slices.Equal(order, want) {
		t.Errorf("the order was changed to %v", order)
	}
	marks.Near(ms, 2, true)
	marks.Near(ms, 2, false)
	if !slices.Equal(allMarks, marksBefore) {
		t.Errorf("the marks were changed to %v", allMarks)
	}
	if !slices.Equal(allEdits, editsBefore) {
		t.Errorf("the edits were changed to %v", allEdits)
	}
}
