package diff_test

import (
	"math"
	"math/rand"
	"slices"
	"testing"

	"fustian/api"
	"fustian/diff"
)

// plainPatch goes line by line through the steps, independently of the package.
func plainPatch(a []string, l []api.Step, news []string) ([]string, api.Errno) {
	if len(l) > 200 || len(a) > 80 || len(news) > 80 {
		return nil, api.ErrSize
	}
	var made []string
	old, fresh := 0, 0
	for _, s := range l {
		if s.Kind != api.Keep && s.Kind != api.Drop && s.Kind != api.Take {
			return nil, api.ErrKind
		}
		if s.Count <= 0 || s.Count >= 201 {
			return nil, api.ErrRange
		}
		for range s.Count {
			switch {
			case s.Kind == api.Take && fresh < len(news):
				made = append(made, news[fresh])
				fresh++
			case s.Kind == api.Keep && old < len(a):
				made = append(made, a[old])
				old++
			case s.Kind == api.Drop && old < len(a):
				old++
			default:
				return nil, api.ErrShort
			}
		}
	}
	if old < len(a) || fresh < len(news) {
		return nil, api.ErrForm
	}
	return made, api.OK
}

// P11.3: ordinary steps, those that no minimal script has, and the limits.
func TestPatch(t *testing.T) {
	cases := []struct {
		name string
		a    []string
		l    []api.Step
		news []string
		want []string
	}{
		{"example", letters("xy"), []api.Step{drop(1), keep(1), take(1)}, letters("z"), letters("yz")},
		{"nothing", nil, nil, nil, nil},
		{"nothing in empty lists", []string{}, []api.Step{}, []string{}, nil},
		{"all kept", letters("xyz"), []api.Step{keep(3)}, nil, letters("xyz")},
		{"all dropped", letters("xyz"), []api.Step{drop(3)}, nil, nil},
		{"all taken", nil, []api.Step{take(3)}, letters("xyz"), letters("xyz")},
		{"kept one by one", letters("xyz"), []api.Step{keep(1), keep(1), keep(1)}, nil, letters("xyz")},
		{"dropped one by one", letters("xyz"), []api.Step{drop(1), drop(1), drop(1)}, nil, nil},
		{"taken one by one", nil, []api.Step{take(1), take(1), take(1)}, letters("xyz"), letters("xyz")},
		{"dropped before taken", letters("ab"), []api.Step{drop(2), take(2)}, letters("xy"), letters("xy")},
		{"taken before dropped", letters("ab"), []api.Step{take(2), drop(2)}, letters("xy"), letters("xy")},
		{"taken before kept", letters("ab"), []api.Step{take(2), keep(2)}, letters("xy"), letters("xyab")},
		{"kept before taken", letters("ab"), []api.Step{keep(2), take(2)}, letters("xy"), letters("abxy")},
		{"by turns", letters("abc"), []api.Step{take(1), keep(1), take(1), drop(1), take(1), keep(1), take(1)}, letters("wxyz"), letters("waxycz")},
		{"dropped and taken again", letters("x"), []api.Step{drop(1), take(1)}, letters("x"), letters("x")},
		{"the first of the same lines dropped", letters("xxy"), []api.Step{drop(1), keep(2)}, nil, letters("xy")},
		{"empty lines", []string{"", ""}, []api.Step{keep(1), take(1), drop(1)}, []string{""}, []string{"", ""}},
		{"longest lines", []string{long(600)}, []api.Step{keep(1), take(1)}, []string{long(600)}, times(long(600), 2)},
		{"lines of any length", []string{long(601), "a"}, []api.Step{keep(1), drop(1), take(1)}, []string{long(100000)}, []string{long(601), long(100000)}},
		{"most lines kept", numbered("a", 80), []api.Step{keep(80)}, nil, numbered("a", 80)},
		{"most lines dropped", numbered("a", 80), []api.Step{drop(80)}, nil, nil},
		{"most lines taken", nil, []api.Step{take(80)}, numbered("b", 80), numbered("b", 80)},
		{"more than MaxLines made", numbered("a", 80), []api.Step{keep(80), take(80)}, numbered("b", 80), append(numbered("a", 80), numbered("b", 80)...)},
		{"most steps that lines suffice for", times("a", 80), slices.Repeat([]api.Step{take(1), keep(1)}, 80), times("b", 80), slices.Repeat([]string{"b", "a"}, 80)},
	}
	for _, c := range cases {
		if got, code := diff.Patch(c.a, c.l, c.news); !slices.Equal(got, c.want) || code != api.OK {
			t.Errorf("%s: Patch(%q, %v, %q) = %q, %v, want %q, OK", c.name, c.a, c.l, c.news, got, code, c.want)
		}
	}
}

func step(kind, count int) api.Step {
	return api.Step{Kind: kind, Count: count}
}

// P11.3: its errors in order, beside which there are no lines.
func TestPatchErrors(t *testing.T) {
	few, most := letters("abc"), times("a", 80)
	cases := []struct {
		name string
		a    []string
		l    []api.Step
		news []string
		want api.Errno
	}{
		{"too many lines", times("a", 81), []api.Step{keep(81)}, nil, api.ErrSize},
		{"too many new lines", nil, []api.Step{take(81)}, times("a", 81), api.ErrSize},
		{"far too many lines", times("a", 100000), []api.Step{keep(200)}, nil, api.ErrSize},
		{"too many lines without steps", times("a", 81), nil, nil, api.ErrSize},
		{"too many new lines without steps", nil, nil, times("a", 81), api.ErrSize},
		{"too many steps", most, slices.Repeat([]api.Step{keep(1)}, 201), nil, api.ErrSize},
		{"most steps", most, slices.Repeat([]api.Step{keep(1)}, 200), nil, api.ErrShort},
		{"size before kind", few, slices.Repeat([]api.Step{{}}, 201), nil, api.ErrSize},
		{"size before count", few, slices.Repeat([]api.Step{keep(0)}, 201), nil, api.ErrSize},
		{"size of a before kind", times("a", 81), []api.Step{{}}, nil, api.ErrSize},
		{"size of news before kind", few, []api.Step{{}}, times("a", 81), api.ErrSize},
		{"most steps of no kind", few, slices.Repeat([]api.Step{{}}, 200), nil, api.ErrKind},
		{"no kind", few, []api.Step{step(0, 1)}, nil, api.ErrKind},
		{"unknown kind", few, []api.Step{step(4, 1)}, nil, api.ErrKind},
		{"negative kind", few, []api.Step{step(-1, 1)}, nil, api.ErrKind},
		{"largest kind", few, []api.Step{step(math.MaxInt, 1)}, nil, api.ErrKind},
		{"least kind", few, []api.Step{step(math.MinInt, 1)}, nil, api.ErrKind},
		{"kind that a byte cannot tell", few, []api.Step{step(257, 1)}, nil, api.ErrKind},
		{"kind before count", few, []api.Step{step(4, 0)}, nil, api.ErrKind},
		{"kind before lines", nil, []api.Step{step(4, 1)}, nil, api.ErrKind},
		{"no count", few, []api.Step{keep(0), keep(3)}, nil, api.ErrRange},
		{"no count to drop", few, []api.Step{drop(0), keep(3)}, nil, api.ErrRange},
		{"no count to take", few, []api.Step{take(0), keep(3)}, nil, api.ErrRange},
		{"negative count", few, []api.Step{keep(-1)}, nil, api.ErrRange},
		{"negative count that makes the sum right", few, []api.Step{keep(1), drop(-1), keep(3)}, nil, api.ErrRange},
		{"too large a count", most, []api.Step{keep(201)}, nil, api.ErrRange},
		{"too large a count to drop", most, []api.Step{drop(201)}, nil, api.ErrRange},
		{"too large a count to take", nil, []api.Step{take(201)}, most, api.ErrRange},
		{"largest count", few, []api.Step{keep(math.MaxInt)}, nil, api.ErrRange},
		{"least count", few, []api.Step{drop(math.MinInt)}, nil, api.ErrRange},
		{"count before lines", nil, []api.Step{keep(201)}, nil, api.ErrRange},
		{"largest count that is one", most, []api.Step{keep(200)}, nil, api.ErrShort},
		{"largest count that is one to drop", most, []api.Step{drop(200)}, nil, api.ErrShort},
		{"largest count that is one to take", nil, []api.Step{take(200)}, most, api.ErrShort},
		{"fewer lines", few, []api.Step{keep(4)}, nil, api.ErrShort},
		{"fewer lines to drop", few, []api.Step{drop(4)}, nil, api.ErrShort},
		{"fewer new lines", nil, []api.Step{take(4)}, few, api.ErrShort},
		{"fewer remaining lines", few, []api.Step{keep(2), drop(2)}, nil, api.ErrShort},
		{"fewer remaining lines to keep", few, []api.Step{drop(2), keep(2)}, nil, api.ErrShort},
		{"fewer remaining new lines", nil, []api.Step{take(2), take(2)}, few, api.ErrShort},
		{"none at all", nil, []api.Step{keep(1)}, nil, api.ErrShort},
		{"only new lines to keep", nil, []api.Step{keep(1)}, few, api.ErrShort},
		{"only new lines to drop", nil, []api.Step{drop(1)}, few, api.ErrShort},
		{"only old lines to take", few, []api.Step{take(1)}, nil, api.ErrShort},
		{"made lines are not kept again", few, []api.Step{keep(3), take(1), keep(1)}, few, api.ErrShort},
		{"lines of the first step before the kind of the second", nil, []api.Step{keep(1), step(4, 1)}, nil, api.ErrShort},
		{"count of the first step before the kind of the second", few, []api.Step{keep(0), step(4, 1)}, nil, api.ErrRange},
		{"lines of the first step before the count of the second", nil, []api.Step{take(1), keep(0)}, nil, api.ErrShort},
		{"kind of a late step", few, []api.Step{keep(1), drop(1), step(4, 1)}, nil, api.ErrKind},
		{"count of a late step", few, []api.Step{keep(1), drop(1), keep(0)}, nil, api.ErrRange},
		{"kind where nothing remains", few, []api.Step{keep(3), step(0, 1)}, nil, api.ErrKind},
		{"count where nothing remains", few, []api.Step{keep(3), take(0)}, nil, api.ErrRange},
		{"lines remain", few, []api.Step{keep(2)}, nil, api.ErrForm},
		{"new lines remain", nil, []api.Step{take(2)}, few, api.ErrForm},
		{"lines of both remain", few, []api.Step{keep(2), take(2)}, few, api.ErrForm},
		{"all lines remain", few, nil, nil, api.ErrForm},
		{"all new lines remain", nil, nil, few, api.ErrForm},
		{"an empty line remains", []string{""}, nil, nil, api.ErrForm},
		{"an empty new line remains", nil, nil, []string{""}, api.ErrForm},
		{"most lines remain", most, nil, most, api.ErrForm},
		{"only new lines remain", few, []api.Step{keep(3)}, few, api.ErrForm},
		{"only old lines remain", few, []api.Step{take(3)}, few, api.ErrForm},
		{"kind before remaining lines", few, []api.Step{keep(1), {}}, few, api.ErrKind},
		{"count before remaining lines", few, []api.Step{keep(1), take(0)}, few, api.ErrRange},
		{"fewer lines before remaining ones", few, []api.Step{take(4)}, few, api.ErrShort},
	}
	for _, c := range cases {
		got, code := diff.Patch(c.a, c.l, c.news)
		if code != c.want || len(got) != 0 {
			t.Errorf("%s: Patch(%d lines, %d steps, %d new lines) = %q, %v, want no lines, %v", c.name, len(c.a), len(c.l), len(c.news), got, code, c.want)
		}
	}
}

func samePatch(t *testing.T, a []string, l []api.Step, news []string) {
	t.Helper()
	want, wantCode := plainPatch(a, l, news)
	if got, code := diff.Patch(a, l, news); !slices.Equal(got, want) || code != wantCode {
		t.Fatalf("Patch(%q, %v, %q) = %q, %v, want %q, %v", a, l, news, got, code, want, wantCode)
	}
}

// P11.3: every short list of steps, valid or not, for every few lines.
func TestPatchShort(t *testing.T) {
	var steps []api.Step
	for kind := 0; kind <= 4; kind++ {
		for count := -1; count <= 3; count++ {
			steps = append(steps, step(kind, count))
		}
		steps = append(steps, step(kind, 200), step(kind, 201))
	}
	all := [][]api.Step{nil}
	last := all
	for range 2 {
		var longer [][]api.Step
		for _, l := range last {
			for _, s := range steps {
				longer = append(longer, append(slices.Clone(l), s))
			}
		}
		all = append(all, longer...)
		last = longer
	}
	for old := range 5 {
		for fresh := range 5 {
			for _, l := range all {
				samePatch(t, numbered("a", old), l, numbered("b", fresh))
			}
		}
	}
}

// P11.3: long lists of steps that use all the lines, and the same with an error.
func TestPatchLong(t *testing.T) {
	r := rand.New(rand.NewSource(113))
	for range 5000 {
		a, news := numbered("a", r.Intn(81)), numbered("b", r.Intn(81))
		l := randomSteps(r, len(a), len(news))
		if _, code := diff.Patch(a, l, news); code != api.OK {
			t.Fatalf("Patch(%q, %v, %q): %v, want OK", a, l, news, code)
		}
		samePatch(t, a, l, news)
		if len(l) == 0 {
			continue
		}
		at := r.Intn(len(l))
		kinds := []int{-1, 0, 1, 2, 3, 4}
		counts := []int{-1, 0, 1, 2, 80, 81, 200, 201, l[at].Count + 1, l[at].Count - 1}
		l[at] = []api.Step{
			step(kinds[r.Intn(len(kinds))], l[at].Count),
			step(l[at].Kind, counts[r.Intn(len(counts))]),
			step(kinds[r.Intn(len(kinds))], counts[r.Intn(len(counts))]),
		}[r.Intn(3)]
		samePatch(t, a, l, news)
	}
}

// randomSteps returns steps that use as many old and new lines.
func randomSteps(r *rand.Rand, old, fresh int) []api.Step {
	var l []api.Step
	for old+fresh > 0 {
		if r.Intn(old+fresh) < old {
			s := step(api.Keep+r.Intn(2), 1+r.Intn(min(old, 9)))
			l = append(l, s)
			old -= s.Count
		} else {
			s := take(1 + r.Intn(min(fresh, 9)))
			l = append(l, s)
			fresh -= s.Count
		}
	}
	return l
}

// P11.3: the lists with their spare capacity stay as they are, and a list that is returned shares no memory with them.
func TestPatchLists(t *testing.T) {
	a, news := letters("abcde"), letters("vwxyz")
	l := []api.Step{keep(2), take(2), drop(1), keep(1), {Kind: 9, Count: 9}}
	cases := []struct {
		steps []api.Step
		old   int
		fresh int
		want  []string
	}{
		{l[:4], 4, 2, letters("abvwd")},
		{l[:1], 2, 0, letters("ab")},
		{l[1:2], 0, 2, letters("vw")},
		{nil, 0, 0, nil},
	}
	for _, c := range cases {
		for range 2 {
			got, code := diff.Patch(a[:c.old], c.steps, news[:c.fresh])
			if !slices.Equal(got, c.want) || code != api.OK {
				t.Fatalf("Patch = %q, %v, want %q, OK", got, code, c.want)
			}
			got = got[:cap(got)]
			for i := range got {
				got[i] = "spoilt"
			}
			if !slices.Equal(a, letters("abcde")) || !slices.Equal(news, letters("vwxyz")) {
				t.Fatalf("Patch changed its lines to %q and %q", a, news)
			}
			if !slices.Equal(l, []api.Step{keep(2), take(2), drop(1), keep(1), {Kind: 9, Count: 9}}) {
				t.Fatalf("Patch changed its steps to %v", l)
			}
		}
	}
}
