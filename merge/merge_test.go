package merge_test

import (
	"fmt"
	"math/rand"
	"slices"
	"strings"
	"testing"

	"fustian/api"
	"fustian/diff"
	"fustian/merge"
)

func long(size int) string {
	return strings.Repeat("x", size)
}

// letters returns a line for each byte of s.
func letters(s string) []string {
	var lines []string
	for i := range len(s) {
		lines = append(lines, s[i:i+1])
	}
	return lines
}

// marked returns a line for each byte of s, and lines that mark a conflict for the bytes <, = and >.
func marked(s string) []string {
	lines := letters(s)
	for i, line := range lines {
		if strings.Contains("<=>", line) {
			lines[i] = strings.Repeat(line, 7)
		}
	}
	return lines
}

// times returns count lines that are all the same.
func times(line string, count int) []string {
	return slices.Repeat([]string{line}, count)
}

// numbered returns count different lines.
func numbered(head string, count int) []string {
	var lines []string
	for i := range count {
		lines = append(lines, fmt.Sprint(head, i))
	}
	return lines
}

// listsUpTo returns every list of at most size lines, each of which is one of the letters.
func listsUpTo(size int, set string) [][]string {
	all := [][]string{nil}
	last := all
	for range size {
		var longer [][]string
		for _, list := range last {
			for _, line := range letters(set) {
				longer = append(longer, append(slices.Clone(list), line))
			}
		}
		all = append(all, longer...)
		last = longer
	}
	return all
}

// change is a hunk of the script to one of the sides.
type change struct {
	side, begin, end int
	lines            []string
}

// changes returns the hunks of the script from base to made, which it goes through line by line.
func changes(side int, base, made []string) []change {
	var list []change
	steps, _ := diff.Steps(base, made)
	at := 0
	within := false
	for _, s := range steps {
		for range s.Count {
			if s.Kind == api.Keep {
				within = false
				at++
				made = made[1:]
				continue
			}
			if !within {
				within = true
				list = append(list, change{side: side, begin: at, end: at})
			}
			last := &list[len(list)-1]
			if s.Kind == api.Drop {
				at++
				last.end = at
			} else {
				last.lines = append(last.lines, made[0])
				made = made[1:]
			}
		}
	}
	return list
}

// touch follows the words of P12.1.
func touch(g, h change) bool {
	return g.side != h.side && !(g.begin > h.end) && !(h.begin > g.end)
}

// groups returns the sets of hunks that are connected by touching, the first ones of base first.
func groups(all []change) [][]change {
	var sets [][]change
	for _, h := range all {
		joined := []change{h}
		var apart [][]change
		for _, set := range sets {
			if slices.ContainsFunc(set, func(g change) bool { return touch(g, h) }) {
				joined = append(joined, set...)
			} else {
				apart = append(apart, set)
			}
		}
		sets = append(apart, joined)
	}
	slices.SortFunc(sets, func(x, y []change) int {
		xBegin, _ := bounds(x)
		yBegin, _ := bounds(y)
		return xBegin - yBegin
	})
	return sets
}

func bounds(set []change) (begin, end int) {
	begin, end = set[0].begin, set[0].end
	for _, h := range set {
		begin = min(begin, h.begin)
		end = max(end, h.end)
	}
	return begin, end
}

func hasSide(set []change, side int) bool {
	return slices.ContainsFunc(set, func(h change) bool { return h.side == side })
}

// version goes through the places of the region: what is put there, and the line that is there if no hunk drops it.
func version(base []string, set []change, side int) []string {
	var lines []string
	begin, end := bounds(set)
	for at := begin; at <= end; at++ {
		dropped := false
		for _, h := range set {
			if h.side == side && h.begin == at {
				lines = append(lines, h.lines...)
			}
			dropped = dropped || h.side == side && h.begin <= at && at < h.end
		}
		if at < end && !dropped {
			lines = append(lines, base[at])
		}
	}
	return lines
}

// plainMerge follows the words of P12.2, independently of the package.
func plainMerge(base, a, b []string) (lines []string, clashes int) {
	at := 0
	for _, set := range groups(append(changes(0, base, a), changes(1, base, b)...)) {
		begin, end := bounds(set)
		lines = append(lines, base[at:begin]...)
		at = end
		inA, inB := version(base, set, 0), version(base, set, 1)
		switch {
		case !hasSide(set, 1):
			lines = append(lines, inA...)
		case !hasSide(set, 0):
			lines = append(lines, inB...)
		case slices.Equal(inA, inB):
			lines = append(lines, inA...)
		default:
			lines = slices.Concat(lines, marked("<"), inA, marked("="), inB, marked(">"))
			clashes++
		}
	}
	return append(lines, base[at:]...), clashes
}

// Ordinary lists and those at the limits, with what P12.1 and P12.2 say of them.
var cases = []struct {
	name       string
	base, a, b []string
	want       []string
	clashes    int
}{
	{"nothing", nil, nil, nil, nil, 0},
	{"empty lists", []string{}, []string{}, []string{}, nil, 0},
	{"no change", letters("abc"), letters("abc"), letters("abc"), letters("abc"), 0},
	{"example: only a changes a line", letters("abc"), letters("axc"), letters("abc"), letters("axc"), 0},
	{"only b changes a line", letters("abc"), letters("abc"), letters("axc"), letters("axc"), 0},
	{"only a removes all lines", letters("abc"), nil, letters("abc"), nil, 0},
	{"only b removes all lines", letters("abc"), letters("abc"), nil, nil, 0},
	{"only a has lines", nil, letters("abc"), nil, letters("abc"), 0},
	{"only b has lines", nil, nil, letters("abc"), letters("abc"), 0},
	{"only a changes several lines", letters("abcdef"), letters("xabydf"), letters("abcdef"), letters("xabydf"), 0},
	{"only b changes several lines", letters("abcdef"), letters("abcdef"), letters("xabydf"), letters("xabydf"), 0},
	{"the same change of a line", letters("abc"), letters("axc"), letters("axc"), letters("axc"), 0},
	{"the same new lines", letters("ab"), letters("axyb"), letters("axyb"), letters("axyb"), 0},
	{"the same lines from nothing", nil, letters("xy"), letters("xy"), letters("xy"), 0},
	{"the same lines are removed", letters("abcd"), letters("ad"), letters("ad"), letters("ad"), 0},
	{"both remove all lines", letters("abc"), nil, nil, nil, 0},
	{"the same changes at several places", letters("abcdef"), letters("xbcyze"), letters("xbcyze"), letters("xbcyze"), 0},

	{"different changes of a line", letters("abc"), letters("axc"), letters("ayc"), marked("a<x=y>c"), 1},
	{"different changes of the only line", letters("a"), letters("x"), letters("y"), marked("<x=y>"), 1},
	{"different lines from nothing", nil, letters("xy"), letters("z"), marked("<xy=z>"), 1},
	{"different new first lines", letters("ab"), letters("xab"), letters("yab"), marked("<x=y>ab"), 1},
	{"different new last lines", letters("ab"), letters("abx"), letters("aby"), marked("ab<x=y>"), 1},
	{"different new lines inside", letters("ab"), letters("axb"), letters("ayzb"), marked("a<x=yz>b"), 1},
	{"new lines of which some are the same", letters("ab"), letters("axyb"), letters("axzb"), marked("a<xy=xz>b"), 1},
	{"more of the same new lines", letters("ab"), letters("axb"), letters("axxb"), marked("a<x=xx>b"), 1},
	{"a removes and b changes", letters("abc"), letters("ac"), letters("axc"), marked("a<=x>c"), 1},
	{"a changes and b removes", letters("abc"), letters("axc"), letters("ac"), marked("a<x=>c"), 1},
	{"a removes all lines and b changes one", letters("abc"), nil, letters("axc"), marked("<=axc>"), 1},
	{"a changes a line and b removes all lines", letters("abc"), letters("axc"), nil, marked("<axc=>"), 1},
	{"a removes more than b", letters("abcd"), letters("ad"), letters("acd"), marked("a<=c>d"), 1},
	{"the same change, and one more line removed", letters("abcd"), letters("axcd"), letters("axd"), marked("a<xc=x>d"), 1},

	{"a line between two changes", letters("abc"), letters("xbc"), letters("aby"), letters("xby"), 0},
	{"a line between two changes, the first one of b", letters("abc"), letters("abx"), letters("ybc"), letters("ybx"), 0},
	{"a line between two new lines", letters("a"), letters("xa"), letters("ay"), letters("xay"), 0},
	{"a line between two new lines, the first one of b", letters("a"), letters("ax"), letters("ya"), letters("yax"), 0},
	{"a line between two removed lines", letters("abc"), letters("bc"), letters("ab"), letters("b"), 0},
	{"a line between a removed one and a new one", letters("abc"), letters("bc"), letters("abxc"), letters("bxc"), 0},
	{"a line between changes of a, b and a", letters("abcde"), letters("xbcdy"), letters("abzde"), letters("xbzdy"), 0},
	{"a line between changes of both", letters("abc"), letters("xbx"), letters("yby"), marked("<x=y>b<x=y>"), 2},

	{"changes of neighboring lines", letters("ab"), letters("xb"), letters("ay"), marked("<xb=ay>"), 1},
	{"changes of neighboring lines, the first one of b", letters("ab"), letters("ax"), letters("yb"), marked("<ax=yb>"), 1},
	{"neighboring lines are removed", letters("abcd"), letters("acd"), letters("abd"), marked("a<c=b>d"), 1},
	{"neighboring lines are removed, the first one by b", letters("abcd"), letters("abd"), letters("acd"), marked("a<b=c>d"), 1},
	{"all lines are removed, half of them by each", letters("abcd"), letters("cd"), letters("ab"), marked("<cd=ab>"), 1},
	{"a new line before a removed one", letters("abc"), letters("axbc"), letters("ac"), marked("a<xb=>c"), 1},
	{"a new line behind a removed one", letters("abc"), letters("abxc"), letters("ac"), marked("a<bx=>c"), 1},
	{"a new line before one that a removes", letters("abc"), letters("ac"), letters("axbc"), marked("a<=xb>c"), 1},
	{"a new line behind one that a removes", letters("abc"), letters("ac"), letters("abxc"), marked("a<=bx>c"), 1},
	{"a new line before a changed one", letters("abc"), letters("axbc"), letters("ayc"), marked("a<xb=y>c"), 1},
	{"a new line behind a changed one", letters("abc"), letters("abxc"), letters("ayc"), marked("a<bx=y>c"), 1},
	{"a new line within removed ones", letters("abcd"), letters("abxcd"), letters("ad"), marked("a<bxc=>d"), 1},
	{"a line changed within changed ones", letters("abcde"), letters("avwxe"), letters("abyde"), marked("a<vwx=byd>e"), 1},
	{"changes that begin at the same line", letters("abcd"), letters("axd"), letters("aycd"), marked("a<x=yc>d"), 1},
	{"changes that end at the same line", letters("abcd"), letters("axd"), letters("abyd"), marked("a<x=by>d"), 1},
	{"changes that overlap", letters("abcde"), letters("axde"), letters("abye"), marked("a<xd=by>e"), 1},
	{"changes that overlap, the first one of b", letters("abcde"), letters("abxe"), letters("ayde"), marked("a<bx=yd>e"), 1},

	{"changes of a that a change of b connects", letters("abcde"), letters("axcye"), letters("apqre"), marked("a<xcy=pqr>e"), 1},
	{"changes of b that a change of a connects", letters("abcde"), letters("apqre"), letters("axcye"), marked("a<pqr=xcy>e"), 1},
	{"changes of a that a change of b between them connects", letters("abcde"), letters("axcye"), letters("abpde"), marked("a<xcy=bpd>e"), 1},
	{"changes of b that a change of a between them connects", letters("abcde"), letters("abpde"), letters("axcye"), marked("a<bpd=xcy>e"), 1},
	{"new lines of a that a change of b connects", letters("abc"), letters("axbyc"), letters("apc"), marked("a<xby=p>c"), 1},
	{"new lines of a that a removed line connects", letters("abc"), letters("axbyc"), letters("ac"), marked("a<xby=>c"), 1},
	{"new lines of b that a removed line connects", letters("abc"), letters("ac"), letters("axbyc"), marked("a<=xby>c"), 1},
	{"a chain of changes", letters("abcdefgh"), letters("1bc2efg3"), letters("a45defgh"), marked("<1bc2=a45d>efg3"), 1},
	{"a chain over all lines", letters("abcdefg"), letters("1b23e45"), letters("a67d89g"), marked("<1b23e45=a67d89g>"), 1},
	{"two chains", letters("abcdefg"), letters("1bcde2g"), letters("a3cdef4"), marked("<1b=a3>cde<2g=f4>"), 2},
	{"a chain that begins with a new line of each", letters("ab"), letters("xab"), letters("yb"), marked("<xa=y>b"), 1},

	{"a conflict among other changes", letters("abcdefg"), letters("1bcXefg"), letters("abcYef2"), marked("1bc<X=Y>ef2"), 1},
	{"a conflict and the same change", letters("abc"), letters("xbp"), letters("ybp"), marked("<x=y>bp"), 1},
	{"the same change and a conflict", letters("abc"), letters("pbx"), letters("pby"), marked("pb<x=y>"), 1},
	{"three conflicts", letters("abcde"), letters("1b2d3"), letters("4b5d6"), marked("<1=4>b<2=5>d<3=6>"), 3},
	{"two swapped lines and a change behind them", letters("xyc"), letters("yxc"), letters("xyd"), marked("y<xc=d>"), 1},

	{"of two equal lines the second one is removed, and the line behind it changed", letters("xxc"), letters("xc"), letters("xxd"), marked("x<c=xd>"), 1},
	{"of two equal lines the second one is removed, and the line before them changed", letters("cxx"), letters("cx"), letters("dxx"), letters("dx"), 0},
	{"the second one of two equal lines is new, and the line behind it changed", letters("xc"), letters("xxc"), letters("xd"), marked("x<xc=d>"), 1},
	{"the second one of two equal lines is new, and the line before them changed", letters("cx"), letters("cxx"), letters("dx"), letters("dxx"), 0},

	{"marks of a conflict as lines of base", marked("<a=b>"), marked("<x=b>"), marked("<a=b>"), marked("<x=b>"), 0},
	{"marks of a conflict as changes", letters("abc"), marked("a<c"), marked("a>c"), marked("a<<=>>c"), 1},
	{"the same marks of a conflict as changes", letters("abc"), marked("a=c"), marked("a=c"), marked("a=c"), 0},
	{"empty lines", []string{"", ""}, []string{"", "", ""}, []string{"", ""}, []string{"", "", ""}, 0},
	{"an empty line and a removed one", letters("abc"), []string{"a", "", "c"}, letters("ac"), []string{"a", "<<<<<<<", "", "=======", ">>>>>>>", "c"}, 1},
	{"lines by case and blanks", []string{"x"}, []string{"X"}, []string{"x "}, []string{"<<<<<<<", "X", "=======", "x ", ">>>>>>>"}, 1},
	{"lines with line feeds", []string{"a\nb"}, []string{"a", "b"}, []string{"a\nb", "c"}, []string{"<<<<<<<", "a", "b", "=======", "a\nb", "c", ">>>>>>>"}, 1},
	{"any bytes", []string{"\xff"}, []string{"\xfe"}, []string{"\ufffd"}, []string{"<<<<<<<", "\xfe", "=======", "\ufffd", ">>>>>>>"}, 1},

	{"longest lines", []string{long(600)}, []string{long(600), "x"}, []string{long(600)}, []string{long(600), "x"}, 0},
	{"longest lines with other ends", []string{long(600)}, []string{long(599) + "y"}, []string{long(599) + "z"}, []string{"<<<<<<<", long(599) + "y", "=======", long(599) + "z", ">>>>>>>"}, 1},
	{"most lines", numbered("x", 80), numbered("x", 80), numbered("x", 80), numbered("x", 80), 0},
	{"most and longest lines", times(long(600), 80), times(long(600), 80), times(long(600), 79), times(long(600), 79), 0},
	{"most lines changed by a", numbered("x", 80), numbered("a", 80), numbered("x", 80), numbered("a", 80), 0},
	{"most lines changed by b", numbered("x", 80), numbered("x", 80), numbered("b", 80), numbered("b", 80), 0},
	{"most lines changed by both", numbered("x", 80), numbered("a", 80), numbered("b", 80), slices.Concat(marked("<"), numbered("a", 80), marked("="), numbered("b", 80), marked(">")), 1},
	{"most lines from nothing", nil, numbered("a", 80), numbered("b", 80), slices.Concat(marked("<"), numbered("a", 80), marked("="), numbered("b", 80), marked(">")), 1},
	{"more lines than a list may have", letters("xy"), append(numbered("a", 78), "x", "y"), append(letters("xy"), numbered("b", 78)...), slices.Concat(numbered("a", 78), letters("xy"), numbered("b", 78)), 0},
}

// P12.1 and P12.2: ordinary lists and those at the limits.
func TestMerge(t *testing.T) {
	for _, c := range cases {
		got, clashes, code := merge.Merge(c.base, c.a, c.b)
		if !slices.Equal(got, c.want) || clashes != c.clashes || code != api.OK {
			t.Errorf("%s: Merge = %q, %d, %v, want %q, %d, OK", c.name, got, clashes, code, c.want, c.clashes)
		}
	}
}

// P12.2: its error, beside which there are neither lines nor conflicts, whichever list it is about.
func TestSizeErrors(t *testing.T) {
	cases := []struct {
		name string
		list []string
	}{
		{"too many lines", times("x", 81)},
		{"too many empty lines", times("", 81)},
		{"too many different lines", numbered("x", 81)},
		{"far too many lines", times("x", 100000)},
		{"too long a line", []string{long(601)}},
		{"far too long a line", []string{long(100000)}},
		{"the first of the lines", []string{long(601), "x", ""}},
		{"the last of the lines", []string{"x", "", long(601)}},
		{"the last of most lines", append(times("x", 79), long(601))},
		{"too many lines that are too long", times(long(601), 81)},
	}
	for _, c := range cases {
		for _, other := range [][]string{nil, letters("x"), times("x", 80), c.list} {
			for place := range 3 {
				lists := [3][]string{other, other, other}
				lists[place] = c.list
				lines, clashes, code := merge.Merge(lists[0], lists[1], lists[2])
				if len(lines) != 0 || clashes != 0 || code != api.ErrSize {
					t.Errorf("%s as list %d, with %d other lines: Merge = %d lines, %d, %v, want none, 0, ErrSize", c.name, place, len(other), len(lines), clashes, code)
				}
			}
		}
	}
}

// P12.2: an error of one list though the others would be in conflict.
func TestErrorBesideConflict(t *testing.T) {
	base, a, b := letters("abc"), letters("axc"), append(letters("ayc"), long(601))
	for _, lists := range [][3][]string{{base, a, b}, {base, b, a}, {b, a, base}} {
		if lines, clashes, code := merge.Merge(lists[0], lists[1], lists[2]); len(lines) != 0 || clashes != 0 || code != api.ErrSize {
			t.Errorf("Merge = %d lines, %d, %v, want none, 0, ErrSize", len(lines), clashes, code)
		}
	}
}

func compare(t *testing.T, base, a, b []string) {
	t.Helper()
	want, count := plainMerge(base, a, b)
	if got, clashes, code := merge.Merge(base, a, b); !slices.Equal(got, want) || clashes != count || code != api.OK {
		t.Fatalf("Merge(%q, %q, %q) = %q, %d, %v, want %q, %d, OK", base, a, b, got, clashes, code, want, count)
	}
}

// P12.1 and P12.2: every three short lists.
func TestShortLists(t *testing.T) {
	for _, lists := range [][][]string{listsUpTo(4, "ab"), listsUpTo(3, "abc")} {
		for _, base := range lists {
			for _, a := range lists {
				for _, b := range lists {
					compare(t, base, a, b)
				}
			}
		}
	}
}

// P12.1 and P12.2: every choice of lines of one list that a and b change or remove, and of places where they have new lines.
func TestEveryChoiceOfLines(t *testing.T) {
	base := letters("abcd")
	var made [2][][]string
	for side, name := range []string{"x", "y"} {
		for choice := range 3 * 3 * 3 * 3 * 2 {
			var lines []string
			for _, line := range base {
				switch choice % 3 {
				case 0:
					lines = append(lines, line)
				case 1:
					lines = append(lines, name)
				}
				choice /= 3
			}
			if choice == 1 {
				lines = append(lines, name)
			}
			made[side] = append(made[side], lines)
		}
	}
	for _, a := range made[0] {
		for _, b := range made[1] {
			compare(t, base, a, b)
			compare(t, base, b, a)
		}
	}
}

// changed returns the list with some of its lines replaced by random ones.
func changed(r *rand.Rand, list []string, set string) []string {
	list = slices.Clone(list)
	for range r.Intn(8) {
		at := r.Intn(len(list) + 1)
		list = slices.Replace(list, at, min(at+r.Intn(4), len(list)), randomLines(r, r.Intn(4), set)...)
	}
	return list[:min(len(list), 80)]
}

func randomLines(r *rand.Rand, count int, set string) []string {
	var lines []string
	for range count {
		lines = append(lines, string(set[r.Intn(len(set))]))
	}
	return lines
}

// P12.1 and P12.2: long lists that are made of each other.
func TestLongLists(t *testing.T) {
	r := rand.New(rand.NewSource(12))
	for range 2000 {
		set := []string{"a", "ab", "aab", "abcd", "abcdefghijklmnopqrst"}[r.Intn(5)]
		base := randomLines(r, r.Intn(81), set)
		if r.Intn(3) == 0 {
			base = numbered("line ", r.Intn(81))
		}
		compare(t, base, changed(r, base, set), changed(r, base, set))
	}
}

// P12.2: what only one of the sides changes, or both in the same way, is merged without a conflict.
func TestOneChange(t *testing.T) {
	lists := listsUpTo(4, "abc")
	for _, base := range lists {
		for _, made := range lists {
			for _, sides := range [][2][]string{{made, base}, {base, made}, {made, made}} {
				got, clashes, code := merge.Merge(base, sides[0], sides[1])
				if !slices.Equal(got, made) || clashes != 0 || code != api.OK {
					t.Fatalf("Merge(%q, %q, %q) = %q, %d, %v, want %q, 0, OK", base, sides[0], sides[1], got, clashes, code, made)
				}
			}
		}
	}
}

// P12.1 and P12.2: the greatest number of regions, each of which is a conflict.
func TestManyConflicts(t *testing.T) {
	var base, a, b, want []string
	for i := range 40 {
		same := fmt.Sprint("same ", i)
		base = append(base, fmt.Sprint("old ", i), same)
		a = append(a, fmt.Sprint("a ", i), same)
		b = append(b, fmt.Sprint("b ", i), same)
		want = append(want, "<<<<<<<", fmt.Sprint("a ", i), "=======", fmt.Sprint("b ", i), ">>>>>>>", same)
	}
	if got, clashes, code := merge.Merge(base, a, b); !slices.Equal(got, want) || clashes != 40 || code != api.OK {
		t.Errorf("Merge = %q, %d, %v, want %q, 40, OK", got, clashes, code, want)
	}
}

// P12.1: changes of neighboring lines, by turns in a and in b, are one region.
func TestLongChain(t *testing.T) {
	base := numbered("old ", 80)
	a, b := slices.Clone(base), slices.Clone(base)
	for i := range base {
		if i%2 == 0 {
			a[i] = fmt.Sprint("a ", i)
		} else {
			b[i] = fmt.Sprint("b ", i)
		}
	}
	want := slices.Concat(marked("<"), a, marked("="), b, marked(">"))
	if got, clashes, code := merge.Merge(base, a, b); !slices.Equal(got, want) || clashes != 1 || code != api.OK {
		t.Errorf("Merge = %q, %d, %v, want %q, 1, OK", got, clashes, code, want)
	}
}

// P12.2: the lists with their spare capacity stay as they are, and a list that is returned is not kept.
func TestListsAreNotShared(t *testing.T) {
	cases := []struct {
		name       string
		base, a, b string
		want       []string
	}{
		{"no change", "abc", "abc", "abc", letters("abc")},
		{"a change of a", "abc", "axc", "abc", letters("axc")},
		{"a change of b", "abc", "abc", "axc", letters("axc")},
		{"all lines are changed", "abc", "xyz", "abc", letters("xyz")},
		{"all lines are new", "", "abc", "", letters("abc")},
		{"the same change", "abc", "axc", "axc", letters("axc")},
		{"a conflict", "abc", "axc", "ayc", marked("a<x=y>c")},
		{"several changes", "abcde", "xbcdy", "abzde", letters("xbzdy")},
	}
	for _, c := range cases {
		memory := letters(c.base + c.a + c.b + "spare capacity")
		before := slices.Clone(memory)
		atA, atB := len(c.base), len(c.base)+len(c.a)
		for range 3 {
			got, _, code := merge.Merge(memory[:atA], memory[atA:atB], memory[atB:atB+len(c.b)])
			if !slices.Equal(got, c.want) || code != api.OK {
				t.Fatalf("%s: Merge = %q, %v, want %q, OK", c.name, got, code, c.want)
			}
			got = got[:cap(got)]
			for i := range got {
				got[i] = "changed"
			}
			if !slices.Equal(memory, before) {
				t.Fatalf("%s: the lists were changed to %q", c.name, memory)
			}
		}
	}
}
