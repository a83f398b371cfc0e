package diff_test

import (
	"fmt"
	"math/rand"
	"slices"
	"strings"
	"testing"

	"fustian/api"
	"fustian/diff"
)

func keep(count int) api.Step { return api.Step{Kind: api.Keep, Count: count} }
func drop(count int) api.Step { return api.Step{Kind: api.Drop, Count: count} }
func take(count int) api.Step { return api.Step{Kind: api.Take, Count: count} }

func long(size int) string {
	return strings.Repeat("x", size)
}

// letters returns a line for each byte of s.
func letters(s string) []string {
	var lines []string
	for i := range len(s) {
		lines = append(lines, s[i:i+1])
	}
	return lines
}

// times returns count lines that are all the same.
func times(line string, count int) []string {
	return slices.Repeat([]string{line}, count)
}

// numbered returns count different lines.
func numbered(head string, count int) []string {
	var lines []string
	for i := range count {
		lines = append(lines, fmt.Sprint(head, i))
	}
	return lines
}

// listsUpTo returns every list of at most size lines, each of which is one of the letters.
func listsUpTo(size int, set string) [][]string {
	all := [][]string{nil}
	last := all
	for range size {
		var longer [][]string
		for _, list := range last {
			for _, line := range letters(set) {
				longer = append(longer, append(slices.Clone(list), line))
			}
		}
		all = append(all, longer...)
		last = longer
	}
	return all
}

func randomLines(r *rand.Rand, count int, set string) []string {
	var lines []string
	for range count {
		lines = append(lines, string(set[r.Intn(len(set))]))
	}
	return lines
}

// within reports whether the lines are lines of b, in their order.
func within(lines, b []string) bool {
	for _, line := range b {
		if len(lines) > 0 && lines[0] == line {
			lines = lines[1:]
		}
	}
	return len(lines) == 0
}

// plainCost tries every choice of the lines of a that are kept, independently of the package.
func plainCost(a, b []string) int {
	least := len(a) + len(b)
	for chosen := range 1 << len(a) {
		var kept []string
		for i, line := range a {
			if chosen>>i&1 == 1 {
				kept = append(kept, line)
			}
		}
		if within(kept, b) {
			least = min(least, len(a)+len(b)-2*len(kept))
		}
	}
	return least
}

// longCost compares the heads of the lists, the longer ones last, for lists with too many choices.
func longCost(a, b []string) int {
	common := make([]int, len(b)+1)
	for _, line := range a {
		diagonal := 0
		for j := range b {
			above := common[j+1]
			if line == b[j] {
				common[j+1] = diagonal + 1
			} else {
				common[j+1] = max(above, common[j])
			}
			diagonal = above
		}
	}
	return len(a) + len(b) - 2*common[len(b)]
}

// plainSteps follows the words of P11.2 operation by operation.
func plainSteps(a, b []string, cost func(a, b []string) int) []api.Step {
	var kinds []int
	for len(a)+len(b) > 0 {
		switch {
		case len(a) > 0 && len(b) > 0 && a[0] == b[0]:
			kinds = append(kinds, api.Keep)
			a, b = a[1:], b[1:]
		case len(a) > 0 && 1+cost(a[1:], b) == cost(a, b):
			kinds = append(kinds, api.Drop)
			a = a[1:]
		default:
			kinds = append(kinds, api.Take)
			b = b[1:]
		}
	}
	var steps []api.Step
	for len(kinds) > 0 {
		count := 1
		for count < len(kinds) && kinds[count] == kinds[0] {
			count++
		}
		steps = append(steps, api.Step{Kind: kinds[0], Count: count})
		kinds = kinds[count:]
	}
	return steps
}

// takenBy returns the lines of b that the steps take.
func takenBy(l []api.Step, b []string) []string {
	var news []string
	for _, s := range l {
		if s.Kind == api.Drop {
			continue
		}
		if s.Kind == api.Take {
			news = append(news, b[:s.Count]...)
		}
		b = b[s.Count:]
	}
	return news
}

// Ordinary lists and those at the limits, with what P11.1 and P11.2 say of them.
var cases = []struct {
	name  string
	a, b  []string
	cost  int
	steps []api.Step
}{
	{"example", letters("xy"), letters("yz"), 2, []api.Step{drop(1), keep(1), take(1)}},
	{"both are nil", nil, nil, 0, nil},
	{"both are empty", []string{}, []string{}, 0, nil},
	{"the same line", letters("x"), letters("x"), 0, []api.Step{keep(1)}},
	{"another line", letters("x"), letters("y"), 2, []api.Step{drop(1), take(1)}},
	{"the same lines", letters("xyz"), letters("xyz"), 0, []api.Step{keep(3)}},
	{"other lines", letters("abc"), letters("xy"), 5, []api.Step{drop(3), take(2)}},
	{"from nothing", nil, letters("xyz"), 3, []api.Step{take(3)}},
	{"to nothing", letters("xyz"), nil, 3, []api.Step{drop(3)}},
	{"an empty line from nothing", nil, []string{""}, 1, []api.Step{take(1)}},
	{"an empty line to nothing", []string{""}, nil, 1, []api.Step{drop(1)}},
	{"empty lines", []string{"", "", "a"}, []string{"", "a", ""}, 2, []api.Step{keep(1), drop(1), keep(1), take(1)}},
	{"a new first line", letters("xy"), letters("axy"), 1, []api.Step{take(1), keep(2)}},
	{"a new last line", letters("xy"), letters("xya"), 1, []api.Step{keep(2), take(1)}},
	{"a new line inside", letters("xy"), letters("xay"), 1, []api.Step{keep(1), take(1), keep(1)}},
	{"without the first line", letters("axy"), letters("xy"), 1, []api.Step{drop(1), keep(2)}},
	{"without the last line", letters("xya"), letters("xy"), 1, []api.Step{keep(2), drop(1)}},
	{"without a line inside", letters("xay"), letters("xy"), 1, []api.Step{keep(1), drop(1), keep(1)}},
	{"another line inside", letters("xay"), letters("xby"), 2, []api.Step{keep(1), drop(1), take(1), keep(1)}},
	{"two swapped lines", letters("xy"), letters("yx"), 2, []api.Step{drop(1), keep(1), take(1)}},
	{"dropped early though both are minimal", letters("abca"), letters("bac"), 3, []api.Step{drop(1), keep(1), drop(1), keep(1), take(1)}},
	{"taken early as dropping costs more", letters("abcd"), letters("xcabd"), 3, []api.Step{take(2), keep(2), drop(1), keep(1)}},
	{"taken where a later line is kept", letters("ab"), letters("bab"), 1, []api.Step{take(1), keep(2)}},
	{"kept though a later keep is minimal too", letters("aab"), letters("ab"), 1, []api.Step{keep(1), drop(1), keep(1)}},
	{"kept though the line comes again", letters("ab"), letters("aab"), 1, []api.Step{keep(1), take(1), keep(1)}},
	{"dropped and taken several times", letters("abxcdyef"), letters("ghxijykl"), 12, []api.Step{drop(2), take(2), keep(1), drop(2), take(2), keep(1), drop(2), take(2)}},
	{"the longest common part is not the first one", letters("abcabba"), letters("cbabac"), 5, []api.Step{drop(2), keep(1), drop(1), keep(1), take(1), keep(2), take(1)}},
	{"by case and blanks", []string{"x", "X", "x "}, []string{"X", " x", "x"}, 4, []api.Step{drop(1), keep(1), drop(1), take(2)}},
	{"lines of one head", []string{"ab", "abc"}, []string{"abc", "abcd"}, 2, []api.Step{drop(1), keep(1), take(1)}},
	{"lines with line feeds", []string{"a\nb", "c"}, []string{"a", "b", "c"}, 3, []api.Step{drop(1), take(2), keep(1)}},
	{"any bytes", []string{"\xff", "\x00", "\ufffd"}, []string{"\ufffd", "\xfe", ""}, 4, []api.Step{drop(2), keep(1), take(2)}},
	{"longest lines", []string{long(600)}, []string{long(600), long(599)}, 1, []api.Step{keep(1), take(1)}},
	{"longest lines with other ends", []string{long(599) + "y"}, []string{long(600)}, 2, []api.Step{drop(1), take(1)}},
	{"most lines", times("x", 80), times("x", 80), 0, []api.Step{keep(80)}},
	{"most different lines", numbered("a", 80), numbered("a", 80), 0, []api.Step{keep(80)}},
	{"most lines to other ones", numbered("a", 80), numbered("b", 80), 160, []api.Step{drop(80), take(80)}},
	{"most lines from nothing", nil, times("x", 80), 80, []api.Step{take(80)}},
	{"most lines to nothing", times("x", 80), nil, 80, []api.Step{drop(80)}},
	{"most lines of the same ones", times("x", 80), times("x", 79), 1, []api.Step{keep(79), drop(1)}},
	{"most and longest lines", times(long(600), 80), times(long(600), 80), 0, []api.Step{keep(80)}},
	{"most and longest lines to other ones", times(long(600), 80), times(long(599)+"y", 80), 160, []api.Step{drop(80), take(80)}},
}

// P11.1: ordinary lists and those at the limits.
func TestCost(t *testing.T) {
	for _, c := range cases {
		if got, code := diff.Cost(c.a, c.b); got != c.cost || code != api.OK {
			t.Errorf("%s: Cost = %d, %v, want %d, OK", c.name, got, code, c.cost)
		}
	}
}

// P11.2: ordinary lists and those at the limits.
func TestSteps(t *testing.T) {
	for _, c := range cases {
		if got, code := diff.Steps(c.a, c.b); !slices.Equal(got, c.steps) || code != api.OK {
			t.Errorf("%s: Steps = %v, %v, want %v, OK", c.name, got, code, c.steps)
		}
	}
}

// P11.1 and P11.2: their error, beside which there is neither a cost nor a step.
func TestSizeErrors(t *testing.T) {
	lastTooLong := append(times("x", 79), long(601))
	cases := []struct {
		name string
		list []string
	}{
		{"too many lines", times("x", 81)},
		{"too many empty lines", times("", 81)},
		{"far too many lines", times("x", 100000)},
		{"too long a line", []string{long(601)}},
		{"far too long a line", []string{long(100000)}},
		{"the first of the lines", []string{long(601), "x", ""}},
		{"the last of the lines", []string{"x", "", long(601)}},
		{"the last of most lines", lastTooLong},
		{"too many lines that are too long", times(long(601), 81)},
	}
	for _, c := range cases {
		for _, other := range [][]string{nil, letters("x"), times("x", 80), c.list} {
			for _, pair := range [][2][]string{{c.list, other}, {other, c.list}} {
				if cost, code := diff.Cost(pair[0], pair[1]); cost != 0 || code != api.ErrSize {
					t.Errorf("%s: Cost of %d and %d lines = %d, %v, want 0, ErrSize", c.name, len(pair[0]), len(pair[1]), cost, code)
				}
				if steps, code := diff.Steps(pair[0], pair[1]); len(steps) != 0 || code != api.ErrSize {
					t.Errorf("%s: Steps of %d and %d lines = %v, %v, want none, ErrSize", c.name, len(pair[0]), len(pair[1]), steps, code)
				}
			}
		}
	}
}

// compare compares Cost and Steps with the plain ones, and Patch turns a into b.
func compare(t *testing.T, a, b []string, cost func(a, b []string) int) {
	t.Helper()
	if got, code := diff.Cost(a, b); got != cost(a, b) || code != api.OK {
		t.Fatalf("Cost(%q, %q) = %d, %v, want %d, OK", a, b, got, code, cost(a, b))
	}
	want := plainSteps(a, b, cost)
	steps, code := diff.Steps(a, b)
	if !slices.Equal(steps, want) || code != api.OK {
		t.Fatalf("Steps(%q, %q) = %v, %v, want %v, OK", a, b, steps, code, want)
	}
	if got, code := diff.Patch(a, steps, takenBy(steps, b)); !slices.Equal(got, b) || code != api.OK {
		t.Fatalf("Patch(%q, %v, %q) = %q, %v, want %q, OK", a, steps, takenBy(steps, b), got, code, b)
	}
}

// P11.1 to P11.3: every pair of short lists.
func TestShortLists(t *testing.T) {
	for _, lists := range [][][]string{listsUpTo(5, "ab"), listsUpTo(4, "abc")} {
		for _, a := range lists {
			for _, b := range lists {
				compare(t, a, b, plainCost)
			}
		}
	}
}

// P11.1 to P11.3: long lists of few different lines, some of which are made of each other.
func TestLongLists(t *testing.T) {
	r := rand.New(rand.NewSource(11))
	for range 150 {
		set := []string{"a", "ab", "aab", "abcd", "abcdefghijklmnopqrst"}[r.Intn(5)]
		a := randomLines(r, r.Intn(81), set)
		b := randomLines(r, r.Intn(81), set)
		if r.Intn(2) == 0 {
			b = slices.Clone(a)
			for range r.Intn(10) {
				at := r.Intn(len(b) + 1)
				b = slices.Replace(b, at, min(at+r.Intn(4), len(b)), randomLines(r, r.Intn(4), set)...)
			}
			b = b[:min(len(b), 80)]
		}
		compare(t, a, b, longCost)
	}
}

// P11.1 and P11.2: one list within the other, so that every cost up to the largest one is there.
func TestEveryCost(t *testing.T) {
	all := numbered("line ", 80)
	for kept := range 81 {
		some := all[80-kept:]
		for _, pair := range [][2][]string{{all, some}, {some, all}} {
			if got, code := diff.Cost(pair[0], pair[1]); got != 80-kept || code != api.OK {
				t.Errorf("Cost with %d common lines of 80 = %d, %v, want %d, OK", kept, got, code, 80-kept)
			}
		}
		other := append(numbered("other ", 80-kept), some...)
		if got, code := diff.Cost(all, other); got != 160-2*kept || code != api.OK {
			t.Errorf("Cost with %d common lines of 80 and 80 = %d, %v, want %d, OK", kept, got, code, 160-2*kept)
		}
	}
}

// P11.2: the greatest number of steps is below the one that Patch accepts.
func TestManySteps(t *testing.T) {
	var a, b []string
	for i := range 40 {
		same := fmt.Sprint("same ", i)
		a = append(a, fmt.Sprint("old ", i), same)
		b = append(b, fmt.Sprint("new ", i), same)
	}
	steps, code := diff.Steps(a, b)
	want := slices.Repeat([]api.Step{drop(1), take(1), keep(1)}, 40)
	if !slices.Equal(steps, want) || code != api.OK {
		t.Errorf("Steps = %v, %v, want %v, OK", steps, code, want)
	}
	if got, code := diff.Patch(a, steps, takenBy(steps, b)); !slices.Equal(got, b) || code != api.OK {
		t.Errorf("Patch = %q, %v, want %q, OK", got, code, b)
	}
}

// P11.1 and P11.2: the lists with their spare capacity stay as they are, and a list that is returned is not kept.
func TestListsAreNotShared(t *testing.T) {
	memory := letters("xyyzxyz")
	before := slices.Clone(memory)
	want := []api.Step{drop(1), keep(1), take(1)}
	for range 3 {
		a, b := memory[:2], memory[2:4]
		if cost, code := diff.Cost(a, b); cost != 2 || code != api.OK {
			t.Fatalf("Cost = %d, %v, want 2, OK", cost, code)
		}
		got, code := diff.Steps(a, b)
		if !slices.Equal(got, want) || code != api.OK {
			t.Fatalf("Steps = %v, %v, want %v, OK", got, code, want)
		}
		got = got[:cap(got)]
		for i := range got {
			got[i] = api.Step{Kind: -7, Count: -7}
		}
		if !slices.Equal(memory, before) {
			t.Fatalf("the lists were changed to %q", memory)
		}
	}
}
