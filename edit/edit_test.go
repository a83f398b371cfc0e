package edit_test

import (
	"math"
	"math/rand"
	"slices"
	"strings"
	"testing"

	"fustian/api"
	"fustian/edit"
)

const limit = 1 << 40

func cut(at, count int) api.Edit       { return api.Edit{At: at, Cut: count} }
func put(at int, text string) api.Edit { return api.Edit{At: at, Put: text} }

func swap(at, count int, text string) api.Edit {
	return api.Edit{At: at, Cut: count, Put: text}
}

func long(size int) string {
	return strings.Repeat("x", size)
}

// allEdits returns every edit of a text of the given size that puts one of the texts.
func allEdits(size int, texts ...string) []api.Edit {
	var all []api.Edit
	for at := 0; at <= size; at++ {
		for count := 0; at+count <= size; count++ {
			for _, text := range texts {
				all = append(all, swap(at, count, text))
			}
		}
	}
	return all
}

// plain makes a valid edit byte by byte, independently of the package.
func plain(text string, e api.Edit) string {
	var made []byte
	for i := 0; i <= len(text); i++ {
		if i == e.At {
			made = append(made, e.Put...)
		}
		if i < len(text) && (i < e.At || i >= e.At+e.Cut) {
			made = append(made, text[i])
		}
	}
	return string(made)
}

// P4.1, Check: every edit at the edges of its range, and beyond them.
func TestCheck(t *testing.T) {
	cases := []struct {
		name string
		size int
		e    api.Edit
		want api.Errno
	}{
		{"nothing in the empty text", 0, api.Edit{}, api.OK},
		{"example", 1, cut(0, 2), api.ErrRange},
		{"all", 3, cut(0, 3), api.OK},
		{"at the end", 3, put(3, "x"), api.OK},
		{"to the end", 3, cut(1, 2), api.OK},
		{"past the end", 3, cut(1, 3), api.ErrRange},
		{"behind the end", 3, cut(4, 0), api.ErrRange},
		{"behind the end of the empty text", 0, put(1, "x"), api.ErrRange},
		{"far behind the end", 600, cut(601, 0), api.ErrRange},
		{"negative offset", 3, cut(-1, 1), api.ErrRange},
		{"negative count", 3, cut(1, -1), api.ErrRange},
		{"negative count within the text", 3, cut(3, -3), api.ErrRange},
		{"negative size", -1, api.Edit{}, api.ErrRange},
		{"negative size and count", -1, cut(0, -1), api.ErrRange},
		{"negative size and offset", -1, cut(-1, 0), api.ErrRange},
		{"largest size", 600, api.Edit{}, api.OK},
		{"size", 601, api.Edit{}, api.ErrRange},
		{"size of which enough is removed", 601, cut(0, 600), api.ErrRange},
		{"full", 600, swap(600, 0, "x"), api.ErrSize},
		{"full after it", 599, put(0, "x"), api.OK},
		{"replaced", 600, swap(0, 1, "x"), api.OK},
		{"replaced by more", 600, swap(0, 1, "xy"), api.ErrSize},
		{"all replaced", 600, swap(0, 600, long(600)), api.OK},
		{"all replaced by more", 600, swap(0, 600, long(601)), api.ErrSize},
		{"large", 0, put(0, long(600)), api.OK},
		{"too large", 0, put(0, long(601)), api.ErrSize},
		{"far too large", 0, put(0, long(100000)), api.ErrSize},
		{"size before result", 601, put(0, "x"), api.ErrRange},
		{"offset before result", 600, put(601, "x"), api.ErrRange},
		{"negative offset before result", 600, put(-1, "x"), api.ErrRange},
		{"count before result", 600, swap(600, 1, long(601)), api.ErrRange},
		{"negative count before result", 600, swap(0, -1, "x"), api.ErrRange},
		{"sum that overflows", 600, cut(math.MaxInt, math.MaxInt), api.ErrRange},
		{"sum that overflows to less", 600, cut(1, math.MaxInt), api.ErrRange},
		{"sum that overflows with a small count", 600, cut(math.MaxInt, 1), api.ErrRange},
		{"least numbers", 600, cut(math.MinInt, math.MinInt), api.ErrRange},
		{"least and largest", 600, cut(math.MinInt, math.MaxInt), api.ErrRange},
		{"largest and least", 600, cut(math.MaxInt, math.MinInt), api.ErrRange},
		{"least size", math.MinInt, cut(1, 0), api.ErrRange},
		{"largest size and numbers", math.MaxInt, cut(math.MaxInt, 0), api.ErrRange},
	}
	for _, c := range cases {
		if got := edit.Check(c.size, c.e); got != c.want {
			t.Errorf("%s: Check(%d, {%d %d, %d bytes}) = %v, want %v", c.name, c.size, c.e.At, c.e.Cut, len(c.e.Put), got, c.want)
		}
	}
}

type listCase struct {
	name string
	text string
	l    []api.Edit
	want string
	back []api.Edit
}

// P4.1, Apply and Invert.
func TestApplyAndInvert(t *testing.T) {
	cases := []listCase{
		{"none", "ab", nil, "ab", nil},
		{"empty list", "ab", []api.Edit{}, "ab", nil},
		{"empty text", "", nil, "", nil},
		{"example", "ab", []api.Edit{swap(1, 1, "x")}, "ax", []api.Edit{swap(1, 1, "b")}},
		{"no effect", "ab", []api.Edit{cut(1, 0)}, "ab", []api.Edit{cut(1, 0)}},
		{"at the start", "ab", []api.Edit{put(0, "xy")}, "xyab", []api.Edit{cut(0, 2)}},
		{"at the end", "ab", []api.Edit{put(2, "xy")}, "abxy", []api.Edit{cut(2, 2)}},
		{"all", "ab", []api.Edit{cut(0, 2)}, "", []api.Edit{put(0, "ab")}},
		{"the same", "ab", []api.Edit{swap(0, 1, "a")}, "ab", []api.Edit{swap(0, 1, "a")}},
		{"in order", "abcd", []api.Edit{swap(1, 2, "XYZ"), put(0, "<")}, "<aXYZd", []api.Edit{cut(0, 1), swap(1, 3, "bc")}},
		{"on the result", "", []api.Edit{put(0, "abc"), cut(1, 1), swap(1, 1, "z")}, "az", []api.Edit{swap(1, 1, "c"), put(1, "b"), cut(0, 3)}},
		{"bytes of a character", "ä", []api.Edit{swap(1, 1, "\xb6")}, "ö", []api.Edit{swap(1, 1, "\xa4")}},
		{"any bytes", "\x00\xff", []api.Edit{swap(1, 1, "\n\x80")}, "\x00\n\x80", []api.Edit{swap(1, 2, "\xff")}},
		{"to the limit", long(600), []api.Edit{cut(0, 600), put(0, "a"), put(1, long(599))}, "a" + long(599), []api.Edit{cut(1, 599), cut(0, 1), put(0, long(600))}},
	}
	for _, c := range cases {
		got, code := edit.Apply(c.text, c.l)
		if got != c.want || code != api.OK {
			t.Errorf("%s: Apply = %q, %v, want %q, OK", c.name, got, code, c.want)
		}
		back, code := edit.Invert(c.text, c.l)
		if !slices.Equal(back, c.back) || code != api.OK {
			t.Errorf("%s: Invert = %v, %v, want %v, OK", c.name, back, code, c.back)
		}
	}
}

// P4.1, Apply and Invert: their errors, in order, beside which the other result is its zero value.
func TestApplyAndInvertErrors(t *testing.T) {
	some := func(count int, e api.Edit) []api.Edit { return slices.Repeat([]api.Edit{e}, count) }
	cases := []struct {
		name string
		text string
		l    []api.Edit
		want api.Errno
	}{
		{"sixty edits", "ab", some(60, cut(1, 0)), api.OK},
		{"sixty-one edits", "ab", some(61, cut(1, 0)), api.ErrSize},
		{"large text", long(600), nil, api.OK},
		{"too large text", long(601), nil, api.ErrSize},
		{"too large text, made smaller", long(601), some(1, cut(0, 601)), api.ErrSize},
		{"number of edits before range", "ab", some(61, cut(3, 0)), api.ErrSize},
		{"size of the text before range", long(601), some(1, cut(-1, 0)), api.ErrSize},
		{"range", "ab", some(1, cut(3, 0)), api.ErrRange},
		{"negative count", "ab", some(1, cut(1, -1)), api.ErrRange},
		{"overflow", "ab", some(1, cut(1, math.MaxInt)), api.ErrRange},
		{"result", long(600), some(1, put(0, "x")), api.ErrSize},
		{"range before result", long(600), some(1, put(601, "x")), api.ErrRange},
		{"valid only for the first text", "ab", []api.Edit{cut(0, 1), cut(1, 1)}, api.ErrRange},
		{"valid only for the second text", "ab", []api.Edit{put(0, "c"), cut(0, 3)}, api.OK},
		{"too large in between", long(600), []api.Edit{put(0, "x"), cut(0, 1)}, api.ErrSize},
		{"too large in the end", long(599), []api.Edit{put(0, "x"), put(0, "x")}, api.ErrSize},
		{"large in the end", long(600), []api.Edit{cut(0, 1), put(0, "x")}, api.OK},
		{"the first of two, range", long(600), []api.Edit{cut(0, 0), cut(601, 0), put(0, "x")}, api.ErrRange},
		{"the first of two, result", long(600), []api.Edit{cut(0, 0), put(0, "x"), cut(-1, 0)}, api.ErrSize},
		{"the last of sixty", "", append(some(59, cut(0, 0)), cut(0, 1)), api.ErrRange},
	}
	for _, c := range cases {
		got, code := edit.Apply(c.text, c.l)
		if code != c.want || code != api.OK && got != "" {
			t.Errorf("%s: Apply = %q, %v, want %v", c.name, got, code, c.want)
		}
		back, code := edit.Invert(c.text, c.l)
		if code != c.want || code != api.OK && len(back) != 0 {
			t.Errorf("%s: Invert = %v, %v, want %v", c.name, back, code, c.want)
		}
	}
}

// sameList fails the test unless Apply gives what plain gives, for a list of valid edits, and Invert undoes it.
func sameList(t *testing.T, text string, l []api.Edit) {
	t.Helper()
	want := text
	for _, e := range l {
		want = plain(want, e)
	}
	got, code := edit.Apply(text, l)
	if got != want || code != api.OK {
		t.Fatalf("Apply(%q, %v) = %q, %v, want %q, OK", text, l, got, code, want)
	}
	back, code := edit.Invert(text, l)
	if len(back) != len(l) || code != api.OK {
		t.Fatalf("Invert(%q, %v) = %v, %v", text, l, back, code)
	}
	for i, e := range back {
		if of := l[len(l)-1-i]; e.At != of.At || e.Cut != len(of.Put) || len(e.Put) != of.Cut {
			t.Fatalf("Invert(%q, %v): %v for %v", text, l, e, of)
		}
	}
	if again, code := edit.Apply(got, back); again != text || code != api.OK {
		t.Fatalf("Invert(%q, %v) = %v, which gives %q, %v", text, l, back, again, code)
	}
}

// P4.1: every list of at most two edits of short texts.
func TestShortLists(t *testing.T) {
	for _, text := range []string{"", "a", "ab", "abc", "abcd"} {
		for _, first := range allEdits(len(text), "", "x", "yz") {
			sameList(t, text, []api.Edit{first})
			for _, second := range allEdits(len(plain(text, first)), "", "x", "yz") {
				sameList(t, text, []api.Edit{first, second})
			}
		}
	}
}

// P4.1: long lists of edits.
func TestRandomLists(t *testing.T) {
	random := rand.New(rand.NewSource(4))
	for range 500 {
		start := long(random.Intn(601))
		text := start
		var l []api.Edit
		for range random.Intn(61) {
			at := random.Intn(len(text) + 1)
			e := cut(at, random.Intn(len(text)-at+1))
			room := 600 - len(text) + e.Cut
			e.Put = "hello\nworld\x00\xff!"[:random.Intn(min(room, 14)+1)]
			l = append(l, e)
			text = plain(text, e)
		}
		sameList(t, start, l)
	}
}

// P4.2: ordinary offsets, and the edges of what an edit removes.
func TestPlace(t *testing.T) {
	cases := []struct {
		name        string
		e           api.Edit
		at          int
		left, right int
	}{
		{"example", put(1, "x"), 1, 1, 2},
		{"ahead of an insertion", put(1, "xy"), 0, 0, 0},
		{"behind an insertion", put(1, "xy"), 2, 4, 4},
		{"ahead of a replacement", swap(3, 2, "abc"), 2, 2, 2},
		{"first byte of a replacement", swap(3, 2, "abc"), 3, 3, 6},
		{"last byte of a replacement", swap(3, 2, "abc"), 4, 3, 6},
		{"end of a replacement", swap(3, 2, "abc"), 5, 6, 6},
		{"behind a replacement", swap(3, 2, "abc"), 9, 10, 10},
		{"first byte of a removal", cut(3, 2), 3, 3, 3},
		{"last byte of a removal", cut(3, 2), 4, 3, 3},
		{"end of a removal", cut(3, 2), 5, 3, 3},
		{"behind a removal", cut(3, 2), 8, 6, 6},
		{"no effect", cut(3, 0), 3, 3, 3},
		{"behind no effect", cut(3, 0), 4, 4, 4},
		{"beyond every text", swap(1000, 1, long(601)), 1001, 1601, 1601},
		{"largest offset", put(0, "x"), limit, limit + 1, limit + 1},
		{"ahead of the largest offset", cut(limit, limit), limit - 1, limit - 1, limit - 1},
		{"at the largest offset", swap(limit, limit, "xy"), limit, limit, limit + 2},
		{"end of the largest removal", swap(0, limit, "xy"), limit, 2, 2},
		{"last byte of the largest removal", swap(0, limit, "xy"), limit - 1, 0, 2},
	}
	for _, c := range cases {
		for right, want := range map[bool]int{false: c.left, true: c.right} {
			if got, code := edit.Place(c.e, c.at, right); got != want || code != api.OK {
				t.Errorf("%s: Place({%d %d, %d bytes}, %d, %v) = %d, %v, want %d, OK", c.name, c.e.At, c.e.Cut, len(c.e.Put), c.at, right, got, code, want)
			}
		}
	}
}

// P4.2: numbers outside of the range.
func TestPlaceErrors(t *testing.T) {
	for _, wrong := range []int{-1, limit + 1, math.MinInt, math.MaxInt} {
		for _, right := range []bool{false, true} {
			if got, code := edit.Place(swap(wrong, 1, "x"), 1, right); got != 0 || code != api.ErrRange {
				t.Errorf("Place with At %d = %d, %v", wrong, got, code)
			}
			if got, code := edit.Place(swap(1, wrong, "x"), 1, right); got != 0 || code != api.ErrRange {
				t.Errorf("Place with Cut %d = %d, %v", wrong, got, code)
			}
			if got, code := edit.Place(swap(1, 1, "x"), wrong, right); got != 0 || code != api.ErrRange {
				t.Errorf("Place at %d = %d, %v", wrong, got, code)
			}
			if got, code := edit.Place(swap(wrong, wrong, "x"), wrong, right); got != 0 || code != api.ErrRange {
				t.Errorf("Place with %d everywhere = %d, %v", wrong, got, code)
			}
		}
	}
}

// P4.2: an offset stays with the byte behind it, unless that is removed or the text is inserted right there.
func TestPlaceFollowsBytes(t *testing.T) {
	const text = "abcdef"
	for _, e := range allEdits(len(text), "", "X", "XYZ") {
		// The last byte stands for the end of the text.
		after := plain(text+"$", e)
		for at := range len(text) + 1 {
			left := strings.IndexByte(after, (text + "$")[at])
			right := left
			if left < 0 || at == e.At {
				left, right = e.At, e.At+len(e.Put)
			}
			if got, code := edit.Place(e, at, false); got != left || code != api.OK {
				t.Errorf("Place(%v, %d, false) = %d, %v, want %d, OK", e, at, got, code, left)
			}
			if got, code := edit.Place(e, at, true); got != right || code != api.OK {
				t.Errorf("Place(%v, %d, true) = %d, %v, want %d, OK", e, at, got, code, right)
			}
		}
	}
}

// P4.3: results in numbers.
func TestOver(t *testing.T) {
	cases := []struct {
		name string
		a, b api.Edit
		want api.Edit
	}{
		{"example", put(8, "x"), cut(3, 2), put(6, "x")},
		{"ahead", swap(1, 2, "x"), swap(4, 1, "yz"), swap(1, 2, "x")},
		{"behind", swap(6, 2, "x"), swap(4, 1, "yz"), swap(7, 2, "x")},
		{"removal right behind", cut(5, 2), swap(3, 2, "xyz"), cut(6, 2)},
		{"removal right ahead", cut(1, 2), swap(3, 2, "xyz"), cut(1, 2)},
		{"insertion at the start of a removal", put(3, "x"), cut(3, 2), put(3, "x")},
		{"insertion at the start of a replacement", put(3, "x"), swap(3, 2, "a"), put(3, "x")},
		{"insertion at the end of a replacement", put(5, "x"), swap(3, 2, "abc"), put(6, "x")},
		{"removal over an insertion at its start", cut(3, 2), put(3, "xyz"), cut(6, 2)},
		{"replacement by less over an insertion at its start", swap(3, 2, "a"), put(3, "xyz"), swap(6, 2, "a")},
		{"removal over an insertion at its end", cut(3, 2), put(5, "xyz"), cut(3, 2)},
		{"greater insertion", put(3, "b"), put(3, "aa"), put(5, "b")},
		{"less insertion", put(3, "aa"), put(3, "b"), put(3, "aa")},
		{"the same insertion", put(3, "ab"), put(3, "ab"), put(3, "ab")},
		{"longer insertion", put(3, "ab"), put(3, "a"), put(4, "ab")},
		{"prefix", put(3, "a"), put(3, "ab"), put(3, "a")},
		{"bytes that are no letters", put(3, "\xff"), put(3, "z"), put(4, "\xff")},
		{"bytes, not runes", put(3, "\xf0\x90\x80\x80"), put(3, "\xef\xbf\xbf"), put(6, "\xf0\x90\x80\x80")},
		{"zero byte", put(3, "\x00"), put(3, ""), put(3, "\x00")},
		{"capital letter", put(3, "B"), put(3, "a"), put(3, "B")},
		{"no effect over an insertion there", cut(3, 0), put(3, "x"), cut(3, 0)},
		{"insertion over no effect there", put(3, "x"), cut(3, 0), put(3, "x")},
		{"no effect in a removal", cut(4, 0), cut(3, 2), cut(3, 0)},
		{"no effect in a replacement", cut(4, 0), swap(3, 2, "abc"), cut(3, 0)},
		{"removal over no effect in it", cut(3, 2), cut(4, 0), cut(3, 2)},
		{"removal over no effect at its start", cut(3, 2), cut(3, 0), cut(3, 2)},
		{"at the end of the text", put(10, "x"), cut(0, 10), put(0, "x")},
	}
	for _, c := range cases {
		if got, code := edit.Over(10, c.a, c.b); got != c.want || code != api.OK {
			t.Errorf("%s: Over(10, %v, %v) = %v, %v, want %v, OK", c.name, c.a, c.b, got, code, c.want)
		}
	}
}

// P4.3: the errors in order, beside which the result is the zero value.
func TestOverErrors(t *testing.T) {
	cases := []struct {
		name string
		size int
		a, b api.Edit
		want api.Errno
	}{
		{"size", 601, cut(0, 0), cut(1, 0), api.ErrRange},
		{"negative size", -1, cut(0, 0), cut(0, 0), api.ErrRange},
		{"range of a", 10, cut(9, 2), cut(0, 1), api.ErrRange},
		{"range of b", 10, cut(0, 1), cut(9, 2), api.ErrRange},
		{"negative offset of b", 10, cut(0, 1), cut(-1, 1), api.ErrRange},
		{"result of a", 600, put(0, "x"), cut(0, 1), api.ErrSize},
		{"result of b", 600, cut(0, 1), put(0, "x"), api.ErrSize},
		{"a before b", 600, put(0, "x"), cut(601, 0), api.ErrSize},
		{"a before b again", 600, cut(601, 0), put(0, "x"), api.ErrRange},
		{"a before clash", 600, swap(0, 2, "xyz"), cut(1, 2), api.ErrSize},
		{"b before clash", 600, cut(1, 2), swap(0, 2, "xyz"), api.ErrSize},
		{"range of a before clash", 10, cut(5, 6), cut(5, 2), api.ErrRange},
		{"range of b before clash", 10, cut(5, 2), cut(5, 6), api.ErrRange},
		{"overflow of a", 600, cut(1, math.MaxInt), cut(0, 0), api.ErrRange},
		{"overflow of b", 600, cut(0, 0), cut(math.MaxInt, math.MaxInt), api.ErrRange},
		{"the same removal", 10, cut(3, 2), cut(3, 2), api.ErrClash},
		{"one common byte", 10, cut(3, 2), cut(4, 2), api.ErrClash},
		{"removal in a removal", 10, cut(4, 1), cut(3, 3), api.ErrClash},
		{"insertion in a removal", 10, put(4, "x"), cut(3, 2), api.ErrClash},
		{"removal around an insertion", 10, cut(3, 2), put(4, "x"), api.ErrClash},
		{"insertion in a replacement", 10, put(5, "x"), swap(3, 3, "y"), api.ErrClash},
		{"together too large", 599, put(0, "x"), put(599, "y"), api.ErrSize},
		{"together too large again", 599, put(599, "y"), put(0, "x"), api.ErrSize},
		{"together large", 598, put(0, "x"), put(598, "y"), api.OK},
		{"large after a removal", 600, put(600, ""), cut(0, 600), api.OK},
		{"removal makes room", 600, swap(0, 1, "x"), swap(1, 1, "y"), api.OK},
		{"clash before result", 599, swap(0, 2, "xyz"), swap(1, 2, "xyz"), api.ErrClash},
	}
	for _, c := range cases {
		got, code := edit.Over(c.size, c.a, c.b)
		if code != c.want || code != api.OK && got != (api.Edit{}) {
			t.Errorf("%s: Over(%d, %v, %v) = %v, %v, want %v", c.name, c.size, c.a, c.b, got, code, c.want)
		}
	}
}

// clash says byte by byte and offset by offset whether two edits of a text of the given size conflict.
func clash(size int, a, b api.Edit) bool {
	removes := func(e api.Edit, i int) bool { return e.At <= i && i < e.At+e.Cut }
	for i := range size {
		if removes(a, i) && removes(b, i) {
			return true
		}
	}
	// Both neighbours of an offset inside of a removed range are removed.
	inside := func(at int, e api.Edit) bool { return removes(e, at-1) && removes(e, at) }
	return a.Put != "" && inside(a.At, b) || b.Put != "" && inside(b.At, a)
}

// sameOrders fails the test unless a and b conflict as they should, or else both orders of making them agree.
func sameOrders(t *testing.T, text string, a, b api.Edit) {
	t.Helper()
	size := len(text)
	aOver, aCode := edit.Over(size, a, b)
	bOver, bCode := edit.Over(size, b, a)
	if clash(size, a, b) {
		if aCode != api.ErrClash || bCode != api.ErrClash || aOver != (api.Edit{}) || bOver != (api.Edit{}) {
			t.Fatalf("Over(%d, %v, %v) = %v, %v and %v, %v, want a clash", size, a, b, aOver, aCode, bOver, bCode)
		}
		return
	}
	if aCode != api.OK || bCode != api.OK || aOver.Cut != a.Cut || aOver.Put != a.Put || bOver.Cut != b.Cut || bOver.Put != b.Put {
		t.Fatalf("Over(%d, %v, %v) = %v, %v and %v, %v", size, a, b, aOver, aCode, bOver, bCode)
	}
	if one, other := plain(plain(text, a), bOver), plain(plain(text, b), aOver); one != other {
		t.Fatalf("%v and %v on %q: %q or %q", a, b, text, one, other)
	}
	right := a.At == b.At && b.Cut == 0 && (a.Cut != 0 || strings.Compare(a.Put, b.Put) > 0)
	if at, code := edit.Place(b, a.At, right); at != aOver.At || code != api.OK {
		t.Fatalf("Over(%d, %v, %v) = %v, want it at %d", size, a, b, aOver, at)
	}
}

// P4.3: all pairs of edits of short texts.
func TestOverPairs(t *testing.T) {
	for _, text := range []string{"", "a", "ab", "abc", "abcd", "abcde"} {
		all := allEdits(len(text), "", "x", "xy", "y", "\xff")
		for _, a := range all {
			for _, b := range all {
				sameOrders(t, text, a, b)
			}
		}
	}
}

// Lists stay as they are, beyond their end too, and results are new memory in each call.
func TestListsAreNotShared(t *testing.T) {
	all := []api.Edit{swap(1, 2, "XYZ"), put(0, "<"), put(0, "beyond"), put(0, "beyond")}
	before := slices.Clone(all)
	l := all[:2]
	edit.Apply("abcd", l)
	first, _ := edit.Invert("abcd", l)
	want := slices.Clone(first)
	second, _ := edit.Invert("abcd", l)
	clear(second[:cap(second)])
	if !slices.Equal(all, before) {
		t.Errorf("the edits were changed to %v", all)
	}
	if !slices.Equal(first, want) {
		t.Errorf("the inverses were changed to %v", first)
	}
}
