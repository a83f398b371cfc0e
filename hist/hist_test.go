package hist_test

import (
	"math"
	"math/rand"
	"slices"
	"strings"
	"testing"

	"fustian/api"
	"fustian/edit"
	"fustian/hist"
)

var (
	shut = api.Deed{Kind: api.Close}
	undo = api.Deed{Kind: api.Undo}
	redo = api.Deed{Kind: api.Redo}
)

func put(at int, text string) api.Deed { return swap(at, 0, text) }
func cut(at, count int) api.Deed       { return swap(at, count, "") }

func swap(at, count int, text string) api.Deed {
	return api.Deed{Kind: api.Do, Edit: api.Edit{At: at, Cut: count, Put: text}}
}

func long(size int) string {
	return strings.Repeat("x", size)
}

func many(count int, l ...api.Deed) []api.Deed {
	return slices.Repeat(l, count)
}

func join(lists ...[]api.Deed) []api.Deed {
	return slices.Concat(lists...)
}

// groups returns deeds that insert so many letters behind each other, each in a group of its own, the last one open.
func groups(count int) []api.Deed {
	var l []api.Deed
	for i := range count {
		l = append(l, shut, put(i, string(rune('a'+i))))
	}
	return l[1:]
}

// timeline is another account of a history: whole texts instead of edits. Groups lead from each text to the next one.
type timeline struct {
	texts []string
	now   int
	open  bool
}

func (l *timeline) do(e api.Edit) api.Errno {
	text := l.texts[l.now]
	if code := edit.Check(len(text), e); code != api.OK {
		return code
	}
	text = text[:e.At] + e.Put + text[e.At+e.Cut:]
	if l.open {
		l.texts = append(l.texts[:l.now:l.now], text)
		return api.OK
	}
	l.texts = append(l.texts[:l.now+1:l.now+1], text)
	l.now++
	l.open = true
	if l.now > 20 {
		l.texts = l.texts[1:]
		l.now--
	}
	return api.OK
}

func (l *timeline) execute(d api.Deed) api.Errno {
	switch {
	case d.Kind == api.Do:
		return l.do(d.Edit)
	case d.Kind == api.Close:
	case d.Kind == api.Undo && l.now > 0:
		l.now--
	case d.Kind == api.Redo && l.now < len(l.texts)-1:
		l.now++
	case d.Kind == api.Undo || d.Kind == api.Redo:
		return api.ErrNone
	default:
		return api.ErrKind
	}
	l.open = false
	return api.OK
}

// same fails the test unless Play and Counts give what a timeline gives, for arguments within the limits.
func same(t *testing.T, text string, l []api.Deed) timeline {
	t.Helper()
	line := timeline{texts: []string{text}}
	var texts []string
	var codes []api.Errno
	for _, d := range l {
		codes = append(codes, line.execute(d))
		texts = append(texts, line.texts[line.now])
	}
	gotTexts, gotCodes, code := hist.Play(text, l)
	if !slices.Equal(gotTexts, texts) || !slices.Equal(gotCodes, codes) || code != api.OK {
		t.Fatalf("Play(%q, %v) = %q, %v, %v, want %q, %v, OK", text, l, gotTexts, gotCodes, code, texts, codes)
	}
	undos, redos, code := hist.Counts(text, l)
	if undos != line.now || redos != len(line.texts)-1-line.now || code != api.OK {
		t.Fatalf("Counts(%q, %v) = %d, %d, %v, want %d, %d, OK", text, l, undos, redos, code, line.now, len(line.texts)-1-line.now)
	}
	return line
}

type playCase struct {
	name       string
	text       string
	l          []api.Deed
	texts      []string
	codes      []api.Errno
	undo, redo int
}

func check(t *testing.T, cases []playCase) {
	t.Helper()
	for _, c := range cases {
		if c.codes == nil {
			c.codes = make([]api.Errno, len(c.l))
		}
		texts, codes, code := hist.Play(c.text, c.l)
		if !slices.Equal(texts, c.texts) || !slices.Equal(codes, c.codes) || code != api.OK {
			t.Errorf("%s: Play = %q, %v, %v, want %q, %v, OK", c.name, texts, codes, code, c.texts, c.codes)
		}
		undos, redos, code := hist.Counts(c.text, c.l)
		if undos != c.undo || redos != c.redo || code != api.OK {
			t.Errorf("%s: Counts = %d, %d, %v, want %d, %d, OK", c.name, undos, redos, code, c.undo, c.redo)
		}
	}
}

// P7.1 and P7.2: the deeds, and which groups there are after them.
func TestDeeds(t *testing.T) {
	check(t, []playCase{
		{"none", "ab", nil, nil, nil, 0, 0},
		{"empty list", "", []api.Deed{}, nil, nil, 0, 0},
		{"do", "ab", []api.Deed{swap(1, 1, "xy")}, []string{"axy"}, nil, 1, 0},
		{"example of Play", "ab", []api.Deed{put(2, "c"), cut(0, 1), undo}, []string{"abc", "bc", "ab"}, nil, 0, 1},
		{"example of Counts", "ab", []api.Deed{put(2, "c"), undo}, []string{"abc", "ab"}, nil, 0, 1},
		{"redo of two edits", "ab", []api.Deed{put(2, "c"), cut(0, 1), undo, redo}, []string{"abc", "bc", "ab", "bc"}, nil, 1, 0},
		{"two groups", "", []api.Deed{put(0, "b"), shut, put(0, "a"), undo, undo}, []string{"b", "b", "ab", "b", ""}, nil, 0, 2},
		{"redo of two groups", "", []api.Deed{put(0, "b"), shut, put(0, "a"), undo, undo, redo, redo}, []string{"b", "b", "ab", "b", "", "b", "ab"}, nil, 2, 0},
		{"close without a group", "a", []api.Deed{shut, shut}, []string{"a", "a"}, nil, 0, 0},
		{"close twice", "", []api.Deed{put(0, "a"), shut, shut, put(1, "b"), undo}, []string{"a", "a", "a", "ab", "a"}, nil, 1, 1},
		{"close keeps redo", "", []api.Deed{put(0, "a"), undo, shut, redo}, []string{"a", "", "", "a"}, nil, 1, 0},
		{"do clears redo", "", []api.Deed{put(0, "a"), shut, put(1, "b"), undo, undo, put(0, "c")}, []string{"a", "a", "ab", "a", "", "c"}, nil, 1, 0},
		{"nothing open after undo", "", []api.Deed{put(0, "a"), shut, put(1, "b"), undo, put(1, "c"), undo}, []string{"a", "a", "ab", "a", "ac", "a"}, nil, 1, 1},
		{"nothing open after redo", "", []api.Deed{put(0, "a"), undo, redo, put(1, "b"), undo}, []string{"a", "", "a", "ab", "a"}, nil, 1, 1},
		{"redone group stays whole", "", []api.Deed{put(0, "a"), put(1, "b"), undo, redo, undo}, []string{"a", "ab", "", "ab", ""}, nil, 0, 1},
		{"edit without effect", "a", []api.Deed{put(0, "b"), undo, cut(1, 0), undo}, []string{"ba", "a", "a", "a"}, nil, 0, 1},
		{"edits only of Do", "a", []api.Deed{{Kind: api.Close, Edit: cut(0, 1).Edit}, put(0, "b"), {Kind: api.Undo, Edit: cut(9, 9).Edit}, {Kind: api.Redo, Edit: cut(0, 1).Edit}}, []string{"a", "ba", "a", "ba"}, nil, 1, 0},
		{"reverse order", "abcd", []api.Deed{swap(1, 2, "X"), swap(0, 2, "YZ0"), cut(1, 3), undo, redo}, []string{"aXd", "YZ0d", "Y", "abcd", "Y"}, nil, 1, 0},
		{"any bytes", "\xff\x00", []api.Deed{swap(0, 1, "\n\x80"), undo, redo}, []string{"\n\x80\x00", "\xff\x00", "\n\x80\x00"}, nil, 1, 0},
		{"largest text", long(600), []api.Deed{swap(0, 600, "a"), put(1, long(599)), undo, redo}, []string{"a", "a" + long(599), long(600), "a" + long(599)}, nil, 1, 0},
	})
}

// P7.1 and P7.2: a deed with an error has its code and no effect, neither on the stacks nor on the open group.
func TestDeedErrors(t *testing.T) {
	const ok, none, kind, wide, size = api.OK, api.ErrNone, api.ErrKind, api.ErrRange, api.ErrSize
	check(t, []playCase{
		{"undo of none", "a", []api.Deed{undo, undo}, []string{"a", "a"}, []api.Errno{none, none}, 0, 0},
		{"redo of none", "a", []api.Deed{redo}, []string{"a"}, []api.Errno{none}, 0, 0},
		{"redo after do", "a", []api.Deed{put(0, "b"), undo, put(0, "c"), redo}, []string{"ba", "a", "ca", "ca"}, []api.Errno{ok, ok, ok, none}, 1, 0},
		{"undo twice", "a", []api.Deed{put(0, "b"), undo, undo, redo}, []string{"ba", "a", "a", "ba"}, []api.Errno{ok, ok, none, ok}, 1, 0},
		{"redo twice", "a", []api.Deed{put(0, "b"), undo, redo, redo, undo}, []string{"ba", "a", "ba", "ba", "a"}, []api.Errno{ok, ok, ok, none, ok}, 0, 1},
		{"invalid do opens nothing", "a", []api.Deed{put(2, "b"), undo}, []string{"a", "a"}, []api.Errno{wide, none}, 0, 0},
		{"invalid do keeps redo", "a", []api.Deed{put(0, "b"), undo, put(2, "c"), redo}, []string{"ba", "a", "a", "ba"}, []api.Errno{ok, ok, wide, ok}, 1, 0},
		{"invalid do keeps the group open", "a", []api.Deed{put(0, "b"), cut(2, 1), put(0, "c"), undo}, []string{"ba", "ba", "cba", "a"}, []api.Errno{ok, wide, ok, ok}, 0, 1},
		{"invalid do does not open a closed group", "", []api.Deed{put(0, "b"), shut, cut(2, 1), put(0, "c"), undo}, []string{"b", "b", "b", "cb", "b"}, []api.Errno{ok, ok, wide, ok, ok}, 1, 1},
		{"redo of none keeps the group open", "", []api.Deed{put(0, "b"), redo, put(0, "a"), undo}, []string{"b", "b", "ab", ""}, []api.Errno{ok, none, ok, ok}, 0, 1},
		{"unknown kind keeps the group open", "", []api.Deed{put(0, "b"), {}, put(0, "a"), undo}, []string{"b", "b", "ab", ""}, []api.Errno{ok, kind, ok, ok}, 0, 1},
		{"unknown kind keeps redo", "", []api.Deed{put(0, "b"), undo, {Kind: 5}, redo}, []string{"b", "", "", "b"}, []api.Errno{ok, ok, kind, ok}, 1, 0},
		{"unknown kind, valid edit", "a", []api.Deed{{Kind: 5, Edit: cut(0, 1).Edit}}, []string{"a"}, []api.Errno{kind}, 0, 0},
		{"unknown kind, invalid edit", "a", []api.Deed{{Kind: 5, Edit: cut(0, 2).Edit}}, []string{"a"}, []api.Errno{kind}, 0, 0},
		{"unknown kinds", "", []api.Deed{{Kind: 0}, {Kind: -1}, {Kind: 5}, {Kind: math.MaxInt}, {Kind: math.MinInt}}, make([]string, 5), []api.Errno{kind, kind, kind, kind, kind}, 0, 0},
		{"ranges", "a", []api.Deed{cut(-1, 1), cut(0, -1), cut(1, 1), cut(1, math.MaxInt), cut(math.MaxInt, 1), cut(math.MinInt, math.MinInt)}, slices.Repeat([]string{"a"}, 6), []api.Errno{wide, wide, wide, wide, wide, wide}, 0, 0},
		{"sizes", "a", []api.Deed{put(1, long(600)), swap(0, 1, long(601))}, []string{"a", "a"}, []api.Errno{size, size}, 0, 0},
		{"range before size", "a", []api.Deed{put(2, long(600)), put(1, long(600))}, []string{"a", "a"}, []api.Errno{wide, size}, 0, 0},
		{"valid only for the first text", "ab", []api.Deed{cut(0, 1), cut(1, 1)}, []string{"b", "b"}, []api.Errno{ok, wide}, 1, 0},
		{"full", long(599), []api.Deed{put(0, "a"), put(0, "b"), undo, put(0, "b")}, []string{"a" + long(599), "a" + long(599), long(599), "b" + long(599)}, []api.Errno{ok, size, ok, ok}, 1, 0},
	})
}

// P7.1 and P7.2: MaxGroups groups, and more, of which the oldest one is discarded when another one is pushed.
func TestMaxGroups(t *testing.T) {
	letters := "abcdefghijklmnopqrstuvwxyz"
	cases := []struct {
		name       string
		l          []api.Deed
		last       string
		code       api.Errno
		undo, redo int
	}{
		{"twenty", groups(20), letters[:20], api.OK, 20, 0},
		{"twenty-one", groups(21), letters[:21], api.OK, 20, 0},
		{"twenty-two", groups(22), letters[:22], api.OK, 20, 0},
		{"twenty undone", join(groups(20), many(20, undo)), "", api.OK, 0, 20},
		{"twenty undone, and one more", join(groups(20), many(21, undo)), "", api.ErrNone, 0, 20},
		{"twenty of twenty-one undone", join(groups(21), many(20, undo)), "a", api.OK, 0, 20},
		{"one discarded", join(groups(21), many(21, undo)), "a", api.ErrNone, 0, 20},
		{"six discarded", join(groups(26), many(21, undo)), "abcdef", api.ErrNone, 0, 20},
		{"twenty redone", join(groups(20), many(20, undo), many(20, redo)), letters[:20], api.OK, 20, 0},
		{"twenty redone, and one more", join(groups(20), many(20, undo), many(21, redo)), letters[:20], api.ErrNone, 20, 0},
		{"nineteen redone after one was discarded", join(groups(21), many(20, undo), many(19, redo)), letters[:20], api.OK, 19, 1},
		{"twenty, one with more edits", join(groups(20), many(3, put(0, "-")), many(20, undo)), "", api.OK, 0, 20},
		{"twenty and an invalid edit", join(groups(20), []api.Deed{shut, put(30, "-")}, many(20, undo)), "", api.OK, 0, 20},
		{"twenty, a close and another deed", join(groups(20), []api.Deed{shut, {}, redo}, many(20, undo)), "", api.OK, 0, 20},
		{"twenty, the last one redone and followed", join(groups(20), []api.Deed{undo, redo, put(0, "-")}, many(21, undo)), "a", api.ErrNone, 0, 20},
		{"twenty, the last one undone and replaced", join(groups(20), []api.Deed{undo, put(0, "-")}, many(20, undo)), "", api.OK, 0, 20},
		{"discarded, then undone and done", join(groups(21), []api.Deed{undo, put(0, "-"), undo}, many(19, undo)), "a", api.OK, 0, 20},
	}
	for _, c := range cases {
		same(t, "", c.l)
		texts, codes, code := hist.Play("", c.l)
		if last := len(c.l) - 1; texts[last] != c.last || codes[last] != c.code || code != api.OK {
			t.Errorf("%s: Play ends with %q, %v, %v, want %q, %v, OK", c.name, texts[last], codes[last], code, c.last, c.code)
		}
		undos, redos, code := hist.Counts("", c.l)
		if undos != c.undo || redos != c.redo || code != api.OK {
			t.Errorf("%s: Counts = %d, %d, %v, want %d, %d, OK", c.name, undos, redos, code, c.undo, c.redo)
		}
	}
}

// P7.1: a group may have more edits than a list of edits.
func TestLargeGroups(t *testing.T) {
	for _, count := range []int{59, 60, 61, 77, 78} {
		texts, codes, code := hist.Play("[]", join(many(count, swap(1, 0, "ab"), cut(1, 1))[:count], []api.Deed{undo, redo}))
		if len(texts) != count+2 || len(codes) != count+2 || code != api.OK {
			t.Fatalf("%d edits: Play = %q, %v, %v", count, texts, codes, code)
		}
		if i := slices.IndexFunc(codes, func(code api.Errno) bool { return code != api.OK }); i >= 0 {
			t.Errorf("%d edits: deed %d has the error %v", count, i, codes[i])
		}
		if texts[count] != "[]" || texts[count+1] != texts[count-1] {
			t.Errorf("%d edits: %q, undone %q, redone %q", count, texts[count-1], texts[count], texts[count+1])
		}
	}
}

// P7.1 and P7.2: the errors of the call, whatever the deeds are.
func TestCallErrors(t *testing.T) {
	cases := []struct {
		name string
		text string
		l    []api.Deed
		want api.Errno
	}{
		{"largest text", long(600), nil, api.OK},
		{"too large text", long(601), nil, api.ErrSize},
		{"too large text, made smaller", long(601), []api.Deed{cut(0, 601)}, api.ErrSize},
		{"eighty deeds", "", many(80, put(0, "a")), api.OK},
		{"eighty-one deeds", "", many(81, put(0, "a")), api.ErrSize},
		{"eighty-one closes", "", many(81, shut), api.ErrSize},
		{"eighty deeds with errors", "", many(80, api.Deed{Kind: 9}), api.OK},
		{"eighty-one deeds with errors", "", many(81, api.Deed{Kind: 9}), api.ErrSize},
		{"eighty-one invalid edits", "", many(81, cut(0, 1)), api.ErrSize},
		{"eighty-one undos", "", many(81, undo), api.ErrSize},
		{"both", long(601), many(81, undo), api.ErrSize},
		{"both largest", long(600), many(80, undo), api.OK},
		{"errors only of deeds", "", []api.Deed{undo, redo, cut(0, 1), {}}, api.OK},
	}
	for _, c := range cases {
		size := 0
		if c.want == api.OK {
			size = len(c.l)
		}
		texts, codes, code := hist.Play(c.text, c.l)
		if len(texts) != size || len(codes) != size || code != c.want {
			t.Errorf("%s: Play = %d texts, %d codes, %v, want %d, %v", c.name, len(texts), len(codes), code, size, c.want)
		}
		undos, redos, code := hist.Counts(c.text, c.l)
		if code != c.want || code != api.OK && (undos != 0 || redos != 0) {
			t.Errorf("%s: Counts = %d, %d, %v, want %v", c.name, undos, redos, code, c.want)
		}
	}
}

// P7.1 and P7.2: every short list of deeds.
func TestShortLists(t *testing.T) {
	deeds := []api.Deed{put(0, "a"), swap(1, 1, "xy"), cut(0, 3), shut, undo, redo, {}}
	var extend func(l []api.Deed)
	extend = func(l []api.Deed) {
		same(t, "pq", l)
		if len(l) == 6 {
			return
		}
		for _, d := range deeds {
			extend(append(l, d))
		}
	}
	extend(make([]api.Deed, 0, 6))
}

// someDeed returns a deed that is mostly valid: an edit if a number below ten is less than often.
func someDeed(random *rand.Rand, size, often int) api.Deed {
	if random.Intn(10) >= often {
		return api.Deed{Kind: []int{api.Close, api.Undo, api.Undo, api.Redo, api.Redo, 5}[random.Intn(6)]}
	}
	at := random.Intn(size + 1)
	return swap(at, random.Intn(min(size-at, 40)+2), "hello\nworld\x00\xff!"[:random.Intn(14)])
}

// P7.1 and P7.2: long lists of deeds on texts of all sizes.
func TestRandomLists(t *testing.T) {
	random := rand.New(rand.NewSource(7))
	full := 0
	for range 5000 {
		size := random.Intn(601)
		text := long(size)
		often := 1 + random.Intn(9)
		var l []api.Deed
		for range random.Intn(81) {
			l = append(l, someDeed(random, size, often))
			if random.Intn(3) == 0 && len(l) < 80 {
				l = append(l, shut)
			}
		}
		l = l[:min(len(l), 80)]
		if line := same(t, text, l); line.now == 20 {
			full++
		}
	}
	if full == 0 {
		t.Error("no history was full")
	}
}

// Lists stay as they are, beyond their end too, and results are new memory in each call.
func TestListsAreNotShared(t *testing.T) {
	all := []api.Deed{put(0, "ab"), shut, cut(1, 1), undo, redo, undo, put(0, "c"), {}}
	before := slices.Clone(all)
	l := all[:6]
	texts, codes, _ := hist.Play("xyz", l)
	wantTexts, wantCodes := slices.Clone(texts), slices.Clone(codes)
	moreTexts, moreCodes, _ := hist.Play("xyz", l)
	clear(moreTexts[:cap(moreTexts)])
	clear(moreCodes[:cap(moreCodes)])
	hist.Counts("xyz", l)
	if !slices.Equal(texts, wantTexts) || !slices.Equal(codes, wantCodes) {
		t.Errorf("the first result became %q, %v, want %q, %v", texts, codes, wantTexts, wantCodes)
	}
	clear(texts[:cap(texts)])
	clear(codes[:cap(codes)])
	if !slices.Equal(all, before) {
		t.Errorf("the deeds were changed to %v", all)
	}
}
