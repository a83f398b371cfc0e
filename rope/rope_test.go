package rope_test

import (
	"math"
	"math/bits"
	"math/rand"
	"slices"
	"strings"
	"testing"

	"fustian/api"
	"fustian/poly"
	"fustian/pos"
	"fustian/rope"
)

func text(s string) api.Op       { return api.Op{Kind: api.Text, Text: s} }
func cat(a, b int) api.Op        { return api.Op{Kind: api.Cat, A: a, B: b} }
func head(a, at int) api.Op      { return api.Op{Kind: api.Head, A: a, At: at} }
func tail(a, at int) api.Op      { return api.Op{Kind: api.Tail, A: a, At: at} }
func copies(a, count int) api.Op { return api.Op{Kind: api.Copy, A: a, Count: count} }

func long(size int) string {
	return strings.Repeat("x", size)
}

// plain executes one operation on texts that are strings.
func plain(op api.Op, texts []string) (string, api.Errno) {
	is := func(number int) bool { return 0 <= number && number < len(texts) }
	var made string
	switch op.Kind {
	case api.Text:
		made = op.Text
	case api.Cat:
		if !is(op.A) || !is(op.B) {
			return "", api.ErrNone
		}
		made = texts[op.A] + texts[op.B]
	case api.Head, api.Tail:
		if !is(op.A) {
			return "", api.ErrNone
		}
		if op.At < 0 || op.At > len(texts[op.A]) {
			return "", api.ErrRange
		}
		made = texts[op.A][:op.At]
		if op.Kind == api.Tail {
			made = texts[op.A][op.At:]
		}
	case api.Copy:
		if !is(op.A) {
			return "", api.ErrNone
		}
		if op.Count < 0 || op.Count > 4 {
			return "", api.ErrRange
		}
		made = strings.Repeat(texts[op.A], op.Count)
	default:
		return "", api.ErrKind
	}
	if len(texts) == 60 {
		return "", api.ErrFull
	}
	if len(made) > 600 {
		return "", api.ErrSize
	}
	return made, api.OK
}

func plainPlay(l []api.Op) (texts []string, codes []api.Errno) {
	for _, op := range l {
		made, code := plain(op, texts)
		if code == api.OK {
			texts = append(texts, made)
		}
		codes = append(codes, code)
	}
	return texts, codes
}

// same fails the test unless all three functions give for l what plain strings give.
func same(t *testing.T, l []api.Op) {
	t.Helper()
	texts, codes, e := rope.Play(l)
	wantTexts, wantCodes := plainPlay(l)
	if !slices.Equal(texts, wantTexts) || !slices.Equal(codes, wantCodes) || e != api.OK {
		t.Fatalf("Play(%v) = %q, %v, %v, want %q, %v, OK", l, texts, codes, e, wantTexts, wantCodes)
	}
	depthsFit(t, l, wantTexts)
	measuresFit(t, l, wantTexts)
}

func depthsFit(t *testing.T, l []api.Op, texts []string) {
	t.Helper()
	depths, e := rope.Depths(l)
	if len(depths) != len(texts) || e != api.OK {
		t.Fatalf("Depths(%v) = %v, %v, want %d depths", l, depths, e, len(texts))
	}
	for i, depth := range depths {
		least, most := 0, 0
		if texts[i] != "" {
			least, most = 1, 2*bits.Len(uint(len(texts[i])))+2
		}
		if depth < least || depth > most {
			t.Fatalf("Depths(%v): %d for text %d with %d bytes, want %d to %d", l, depth, i, len(texts[i]), least, most)
		}
	}
}

func measuresFit(t *testing.T, l []api.Op, texts []string) {
	t.Helper()
	var extents []api.Pos
	var hashes []api.Hash
	for _, s := range texts {
		extents = append(extents, pos.Of(s))
		hashes = append(hashes, poly.Of(s))
	}
	gotExtents, gotHashes, e := rope.Measure(l)
	if !slices.Equal(gotExtents, extents) || !slices.Equal(gotHashes, hashes) || e != api.OK {
		t.Fatalf("Measure(%v) = %v, %v, %v, want %v, %v, OK", l, gotExtents, gotHashes, e, extents, hashes)
	}
}

type playCase struct {
	name  string
	ops   []api.Op
	texts []string
	codes []api.Errno
}

func runPlayCases(t *testing.T, cases []playCase) {
	t.Helper()
	for _, c := range cases {
		texts, codes, e := rope.Play(c.ops)
		if !slices.Equal(texts, c.texts) || !slices.Equal(codes, c.codes) || e != api.OK {
			t.Errorf("%s: %q, %v, %v, want %q, %v, OK", c.name, texts, codes, e, c.texts, c.codes)
		}
		same(t, c.ops)
	}
}

// P3.1: the operations.
func TestPlay(t *testing.T) {
	runPlayCases(t, []playCase{
		{"none", nil, nil, nil},
		{"empty list", []api.Op{}, nil, nil},
		{"example", []api.Op{text("ab"), copies(0, 2)}, []string{"ab", "abab"}, []api.Errno{0, 0}},
		{"texts", []api.Op{text(""), text("a\n"), text("\x00\xff")}, []string{"", "a\n", "\x00\xff"}, []api.Errno{0, 0, 0}},
		{"cat", []api.Op{text("ab"), text("c"), cat(0, 1), cat(1, 0), cat(2, 2)}, []string{"ab", "c", "abc", "cab", "abcabc"}, []api.Errno{0, 0, 0, 0, 0}},
		{"cat of empty texts", []api.Op{text(""), text("a"), cat(0, 1), cat(1, 0), cat(0, 0)}, []string{"", "a", "a", "a", ""}, []api.Errno{0, 0, 0, 0, 0}},
		{"head", []api.Op{text("abc"), head(0, 0), head(0, 1), head(0, 3)}, []string{"abc", "", "a", "abc"}, []api.Errno{0, 0, 0, 0}},
		{"tail", []api.Op{text("abc"), tail(0, 0), tail(0, 1), tail(0, 3)}, []string{"abc", "abc", "bc", ""}, []api.Errno{0, 0, 0, 0}},
		{"parts of the empty text", []api.Op{text(""), head(0, 0), tail(0, 0), copies(0, 4)}, []string{"", "", "", ""}, []api.Errno{0, 0, 0, 0}},
		{"parts across leaves", []api.Op{text("ab"), text("cd"), cat(0, 1), head(2, 2), head(2, 3), tail(2, 1), tail(2, 2)}, []string{"ab", "cd", "abcd", "ab", "abc", "bcd", "cd"}, make([]api.Errno, 7)},
		{"copies", []api.Op{text("ab"), copies(0, 0), copies(0, 1), copies(0, 4)}, []string{"ab", "", "ab", "abababab"}, []api.Errno{0, 0, 0, 0}},
		{"a part of a character", []api.Op{text("ä"), head(0, 1), tail(0, 1)}, []string{"ä", "\xc3", "\xa4"}, []api.Errno{0, 0, 0}},
	})
}

// P3.1: an operation that fails creates no text, and the numbers of later texts do not count it.
func TestPlayCodes(t *testing.T) {
	runPlayCases(t, []playCase{
		{"kinds", []api.Op{{}, {Kind: -1}, {Kind: 6}, {Kind: math.MinInt}, {Kind: math.MaxInt}}, nil, []api.Errno{3, 3, 3, 3, 3}},
		{"no text yet", []api.Op{cat(0, 0), head(0, 0), tail(0, 0), copies(0, 0), text("a")}, []string{"a"}, []api.Errno{7, 7, 7, 7, 0}},
		{"its own number", []api.Op{text("a"), cat(0, 1), cat(1, 0), head(1, 0), tail(1, 0), copies(1, 1)}, []string{"a"}, []api.Errno{0, 7, 7, 7, 7, 7}},
		{"negative numbers", []api.Op{text("a"), cat(-1, 0), cat(0, -1), head(-1, 0), tail(-1, 0), copies(-1, 1)}, []string{"a"}, []api.Errno{0, 7, 7, 7, 7, 7}},
		{"huge numbers", []api.Op{text("a"), cat(math.MaxInt, 0), cat(0, math.MinInt), head(math.MinInt, 0), tail(math.MaxInt, 0), copies(math.MinInt, 1)}, []string{"a"}, []api.Errno{0, 7, 7, 7, 7, 7}},
		{"offsets", []api.Op{text("ab"), head(0, -1), head(0, 3), tail(0, -1), tail(0, 3), head(0, math.MinInt), head(0, math.MaxInt), tail(0, math.MinInt), tail(0, math.MaxInt)}, []string{"ab"}, []api.Errno{0, 2, 2, 2, 2, 2, 2, 2, 2}},
		{"counts", []api.Op{text("ab"), copies(0, -1), copies(0, 5), copies(0, math.MinInt), copies(0, math.MaxInt)}, []string{"ab"}, []api.Errno{0, 2, 2, 2, 2}},
		{"counts of the empty text", []api.Op{text(""), copies(0, 5), copies(0, -1)}, []string{""}, []api.Errno{0, 2, 2}},
		{"numbers after a failure", []api.Op{text("a"), {Kind: 9}, text("b"), cat(0, 1), cat(0, 3)}, []string{"a", "b", "ab"}, []api.Errno{0, 3, 0, 0, 7}},
	})
}

// P3.1: sizes of texts.
func TestPlaySizes(t *testing.T) {
	runPlayCases(t, []playCase{
		{"texts", []api.Op{text(long(600)), text(long(601))}, []string{long(600)}, []api.Errno{0, 1}},
		{"cat", []api.Op{text(long(300)), text("a"), cat(0, 0), cat(2, 1), cat(1, 2)}, []string{long(300), "a", long(600)}, []api.Errno{0, 0, 0, 1, 1}},
		{"copies", []api.Op{text(long(150)), text(long(151)), copies(0, 4), copies(1, 4), copies(2, 1), copies(2, 2), copies(2, 0)}, []string{long(150), long(151), long(600), long(600), ""}, []api.Errno{0, 0, 0, 1, 0, 1, 0}},
		{"parts of a large text", []api.Op{text(long(600)), head(0, 600), tail(0, 0), head(0, 601), tail(0, 601)}, []string{long(600), long(600), long(600)}, []api.Errno{0, 0, 0, 2, 2}},
	})
}

// P3.1: fields that an operation does not use are ignored, even if they are invalid for another one.
func TestPlayIgnoresUnusedFields(t *testing.T) {
	huge := long(601)
	runPlayCases(t, []playCase{{
		"unused fields",
		[]api.Op{
			{Kind: api.Text, Text: "ab", A: -1, B: 9, At: -1, Count: 9},
			{Kind: api.Cat, Text: huge, A: 0, B: 0, At: -1, Count: 9},
			{Kind: api.Head, Text: huge, A: 1, B: 9, At: 3, Count: 9},
			{Kind: api.Tail, Text: huge, A: 1, B: -1, At: 3, Count: -1},
			{Kind: api.Copy, Text: huge, A: 0, B: 9, At: 99, Count: 2},
		},
		[]string{"ab", "abab", "aba", "b", "abab"},
		make([]api.Errno, 5),
	}})
}

// P3.1: the order of the errors of an operation.
func TestPlayErrorOrder(t *testing.T) {
	full := []api.Op{text(long(600))}
	for range 59 {
		full = append(full, text("a"))
	}
	few := full[:2]
	cases := []struct {
		name   string
		before []api.Op
		op     api.Op
		want   api.Errno
	}{
		{"kind before none", few, api.Op{Kind: 6, A: -1, B: -1, At: -1, Count: 9}, api.ErrKind},
		{"none before range, head", few, head(2, -1), api.ErrNone},
		{"none before range, tail", few, tail(2, -1), api.ErrNone},
		{"none before range, copy", few, copies(2, 5), api.ErrNone},
		{"range before size", few, copies(0, 5), api.ErrRange},
		{"kind before full", full, api.Op{Kind: 0}, api.ErrKind},
		{"none before full", full, cat(0, 60), api.ErrNone},
		{"range before full, head", full, head(1, 2), api.ErrRange},
		{"range before full, tail", full, tail(1, 2), api.ErrRange},
		{"range before full, copy", full, copies(1, 5), api.ErrRange},
		{"full before size, text", full, text(long(601)), api.ErrFull},
		{"full before size, cat", full, cat(0, 1), api.ErrFull},
		{"full before size, copy", full, copies(0, 2), api.ErrFull},
		{"full, empty text", full, text(""), api.ErrFull},
		{"full, cat", full, cat(1, 2), api.ErrFull},
		{"full, head", full, head(1, 0), api.ErrFull},
		{"full, tail", full, tail(1, 1), api.ErrFull},
		{"full, copy", full, copies(1, 0), api.ErrFull},
		{"the last one", full[:59], cat(1, 2), api.OK},
	}
	for _, c := range cases {
		l := append(slices.Clone(c.before), c.op)
		texts, codes, e := rope.Play(l)
		if e != api.OK || len(codes) != len(l) || codes[len(codes)-1] != c.want {
			t.Errorf("%s: codes %v, %v, want %v as the last one", c.name, codes, e, c.want)
		}
		if len(texts) > 60 {
			t.Errorf("%s: %d texts", c.name, len(texts))
		}
		same(t, l)
	}
}

// P3.1, P3.2: the number of operations, which counts those that fail.
func TestNumberOfOperations(t *testing.T) {
	for _, op := range []api.Op{text("a"), {Kind: 9}} {
		same(t, slices.Repeat([]api.Op{op}, 80))
		many := slices.Repeat([]api.Op{op}, 81)
		if texts, codes, e := rope.Play(many); len(texts) != 0 || len(codes) != 0 || e != api.ErrSize {
			t.Errorf("Play of 81 operations: %v, %v, %v", texts, codes, e)
		}
		if depths, e := rope.Depths(many); len(depths) != 0 || e != api.ErrSize {
			t.Errorf("Depths of 81 operations: %v, %v", depths, e)
		}
		if extents, hashes, e := rope.Measure(many); len(extents) != 0 || len(hashes) != 0 || e != api.ErrSize {
			t.Errorf("Measure of 81 operations: %v, %v, %v", extents, hashes, e)
		}
	}
}

// P3.2: the depth of an empty text, however it comes about.
func TestDepthsOfEmptyTexts(t *testing.T) {
	l := []api.Op{text(""), text("ab"), head(1, 0), tail(1, 2), copies(1, 0), cat(0, 2), copies(5, 4), cat(1, 1), head(7, 0), tail(7, 4)}
	depths, e := rope.Depths(l)
	if len(depths) != len(l) || e != api.OK {
		t.Fatalf("Depths = %v, %v", depths, e)
	}
	for i, depth := range depths {
		if empty := i != 1 && i != 7; empty != (depth == 0) {
			t.Errorf("depth of text %d is %d", i, depth)
		}
	}
	same(t, l)
}

// P3.2: chains of operations that would make a tree deep if nothing kept it balanced.
func TestDepthsOfChains(t *testing.T) {
	chain := func(next func(last int) []api.Op, start ...api.Op) []api.Op {
		l := slices.Clone(start)
		for {
			more := next(len(l) - 1)
			if len(l)+len(more) > 60 {
				return l
			}
			l = append(l, more...)
		}
	}
	chains := map[string][]api.Op{
		"at the end":   chain(func(last int) []api.Op { return []api.Op{cat(last, 0)} }, text("a")),
		"in front":     chain(func(last int) []api.Op { return []api.Op{cat(0, last)} }, text("\n")),
		"both ends":    chain(func(last int) []api.Op { return []api.Op{cat(last, 0), cat(0, last+1)} }, text("ab")),
		"two before":   chain(func(last int) []api.Op { return []api.Op{cat(last, last-1)} }, text("a"), text("b")),
		"long and one": chain(func(last int) []api.Op { return []api.Op{cat(last, 0), tail(last+1, 1)} }, text(long(599))),
		"copies":       chain(func(last int) []api.Op { return []api.Op{copies(last, 3), head(last+1, 200)} }, text("a\nb"), copies(0, 4), copies(1, 4), copies(2, 4)),
		"in the middle": chain(func(last int) []api.Op {
			return []api.Op{head(last, last/8+1), tail(last, last/8+1), cat(last+1, 0), cat(last+3, last+2)}
		}, text("abc")),
	}
	for name, l := range chains {
		t.Run(name, func(t *testing.T) { same(t, l) })
	}
}

// P3.2, Measure: extents and hashes in numbers.
func TestMeasure(t *testing.T) {
	l := []api.Op{text("a"), text("b\nc"), {Kind: 9}, cat(0, 1), head(2, 3), tail(2, 3), text("")}
	extents, hashes, e := rope.Measure(l)
	wantExtents := []api.Pos{{Bytes: 1, Col: 1}, {Bytes: 3, Lines: 1, Col: 1}, {Bytes: 4, Lines: 1, Col: 1}, {Bytes: 3, Lines: 1}, {Bytes: 1, Col: 1}, {}}
	wantHashes := []api.Hash{{Value: 98, Shift: 257}, poly.Of("b\nc"), poly.Of("ab\nc"), poly.Of("ab\n"), {Value: 100, Shift: 257}, {Value: 0, Shift: 1}}
	if !slices.Equal(extents, wantExtents) || !slices.Equal(hashes, wantHashes) || e != api.OK {
		t.Errorf("Measure = %v, %v, %v, want %v, %v, OK", extents, hashes, e, wantExtents, wantHashes)
	}
	extents, hashes, e = rope.Measure(nil)
	if len(extents) != 0 || len(hashes) != 0 || e != api.OK {
		t.Errorf("Measure(nil) = %v, %v, %v", extents, hashes, e)
	}
}

// P3.1, P3.2: every list of at most four operations out of some ordinary and some failing ones.
func TestShortLists(t *testing.T) {
	ops := []api.Op{
		text(""), text("a\nb"), cat(0, 1), cat(1, 0), cat(0, 0), head(0, 1), head(1, 3), tail(0, 1), tail(1, 4),
		copies(0, 0), copies(1, 3), copies(0, 5), {Kind: 6},
	}
	var extend func(l []api.Op)
	extend = func(l []api.Op) {
		same(t, l)
		if len(l) == 4 {
			return
		}
		for _, op := range ops {
			extend(append(slices.Clone(l), op))
		}
	}
	extend(nil)
}

// numberNear returns a number from 0 to limit, or sometimes one outside of that.
func numberNear(random *rand.Rand, limit int) int {
	if random.Intn(30) == 0 {
		return []int{-1, limit + 1, math.MinInt, math.MaxInt}[random.Intn(4)]
	}
	return random.Intn(limit + 1)
}

// randomOp returns an operation on the texts that mostly succeeds.
func randomOp(random *rand.Rand, texts []string) api.Op {
	op := api.Op{
		Kind:  1 + random.Intn(5),
		Text:  "hello\nworld\n!"[:random.Intn(14)],
		A:     numberNear(random, max(len(texts)-1, 0)),
		B:     numberNear(random, max(len(texts)-1, 0)),
		Count: numberNear(random, 4),
	}
	size := 0
	if 0 <= op.A && op.A < len(texts) {
		size = len(texts[op.A])
	}
	op.At = numberNear(random, size)
	return op
}

// P3.1, P3.2: long lists of all kinds of operations.
func TestRandomLists(t *testing.T) {
	random := rand.New(rand.NewSource(3))
	for range 2000 {
		var l []api.Op
		var texts []string
		for range 80 {
			op := randomOp(random, texts)
			if made, code := plain(op, texts); code == api.OK {
				texts = append(texts, made)
			}
			l = append(l, op)
		}
		same(t, l)
	}
}

// The list of operations stays as it is, beyond its end too, and results are new memory in each call.
func TestListsAreNotShared(t *testing.T) {
	all := []api.Op{text("ab"), copies(0, 2), {Kind: 9}, head(1, 3), text("beyond"), text("beyond")}
	before := slices.Clone(all)
	l := all[:4]
	texts, codes, _ := rope.Play(l)
	depths, _ := rope.Depths(l)
	extents, hashes, _ := rope.Measure(l)
	if !slices.Equal(all, before) {
		t.Errorf("the operations were changed to %v", all)
	}
	clear(texts[:cap(texts)])
	clear(codes[:cap(codes)])
	clear(depths[:cap(depths)])
	clear(extents[:cap(extents)])
	clear(hashes[:cap(hashes)])
	if !slices.Equal(all, before) {
		t.Errorf("the results share memory with the operations: %v", all)
	}
	same(t, l)
}
