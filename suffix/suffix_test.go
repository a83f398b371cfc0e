package suffix_test

import (
	"math/rand"
	"slices"
	"strings"
	"testing"

	"fustian/api"
	"fustian/suffix"
)

func long(size int) string {
	return strings.Repeat("x", size)
}

// upTo returns the numbers that are less than size.
func upTo(size int) []int {
	numbers := make([]int, size)
	for i := range numbers {
		numbers[i] = i
	}
	return numbers
}

// downFrom returns the numbers that are less than size, the greatest one first.
func downFrom(size int) []int {
	numbers := upTo(size)
	slices.Reverse(numbers)
	return numbers
}

// shortTexts returns every text of at most size bytes out of the letters.
func shortTexts(size int, letters string) []string {
	all := []string{""}
	last := all
	for range size {
		var longer []string
		for _, text := range last {
			for i := range len(letters) {
				longer = append(longer, text+letters[i:i+1])
			}
		}
		all = append(all, longer...)
		last = longer
	}
	return all
}

func randomText(r *rand.Rand, size int, letters string) string {
	text := make([]byte, size)
	for i := range text {
		text[i] = letters[r.Intn(len(letters))]
	}
	return string(text)
}

// plainLess compares two strings byte by byte, independently of the package.
func plainLess(a, b string) bool {
	for i := range min(len(a), len(b)) {
		if a[i] != b[i] {
			return a[i] < b[i]
		}
	}
	return len(a) < len(b)
}

// plainSort counts for every suffix how many are less than it.
func plainSort(text string) []int {
	sorted := make([]int, len(text))
	for a := range len(text) {
		rank := 0
		for b := range len(text) {
			if plainLess(text[b:], text[a:]) {
				rank++
			}
		}
		sorted[rank] = a
	}
	return sorted
}

// plainCommon tries every length of a common prefix, the greatest one first.
func plainCommon(text string, sorted []int) []int {
	lengths := make([]int, len(sorted))
	for i := 1; i < len(sorted); i++ {
		before, suffix := text[sorted[i-1]:], text[sorted[i]:]
		n := len(suffix)
		for !strings.HasPrefix(before, suffix[:n]) {
			n--
		}
		lengths[i] = n
	}
	return lengths
}

// plainFind tries every offset.
func plainFind(text, find string) []int {
	var offsets []int
	for at := range len(text) {
		if strings.HasPrefix(text[at:], find) {
			offsets = append(offsets, at)
		}
	}
	return offsets
}

// plainUnlike collects every nonempty substring.
func plainUnlike(text string) int {
	met := map[string]bool{}
	for from := range len(text) {
		for to := from + 1; to <= len(text); to++ {
			met[text[from:to]] = true
		}
	}
	return len(met)
}

// plainAgain tries every length, the greatest one first, and every offset, the smallest one first.
func plainAgain(text string) (int, int) {
	for size := len(text) - 1; size > 0; size-- {
		for at := 0; at+size < len(text); at++ {
			if strings.Contains(text[at+1:], text[at:at+size]) {
				return at, size
			}
		}
	}
	return 0, 0
}

// checkSorted compares Sort and Common with the plain models.
func checkSorted(t *testing.T, text string) {
	t.Helper()
	sorted := plainSort(text)
	if got, code := suffix.Sort(text); code != api.OK || !slices.Equal(got, sorted) {
		t.Errorf("Sort(%q): %v, %v, want %v", text, got, code, sorted)
	}
	want := plainCommon(text, sorted)
	if got, code := suffix.Common(text); code != api.OK || !slices.Equal(got, want) {
		t.Errorf("Common(%q): %v, %v, want %v", text, got, code, want)
	}
}

func checkFind(t *testing.T, text, find string) {
	t.Helper()
	want := plainFind(text, find)
	if got, code := suffix.Find(text, find); code != api.OK || !slices.Equal(got, want) {
		t.Errorf("Find(%q, %q): %v, %v, want %v", text, find, got, code, want)
	}
}

// checkSubstrings compares Unlike and Again with the plain models.
func checkSubstrings(t *testing.T, text string) {
	t.Helper()
	want := plainUnlike(text)
	if got, code := suffix.Unlike(text); code != api.OK || got != want {
		t.Errorf("Unlike(%q): %v, %v, want %v", text, got, code, want)
	}
	wantAt, wantLong := plainAgain(text)
	at, size, code := suffix.Again(text)
	if code != api.OK || at != wantAt || size != wantLong {
		t.Errorf("Again(%q): %v, %v, %v, want %v, %v", text, at, size, code, wantAt, wantLong)
	}
}

// P13.1: the suffix array, and the common prefixes of neighbors in it.
func TestSortAndCommon(t *testing.T) {
	cases := []struct {
		name   string
		text   string
		sorted []int
		common []int
	}{
		{"empty", "", nil, nil},
		{"one byte", "a", []int{0}, []int{0}},
		{"example", "aba", []int{2, 0, 1}, []int{0, 1, 0}},
		{"banana", "banana", []int{5, 3, 1, 0, 4, 2}, []int{0, 1, 3, 0, 0, 2}},
		{"a prefix before the longer one", "aaa", []int{2, 1, 0}, []int{0, 1, 2}},
		{"all different, increasing", "abc", []int{0, 1, 2}, []int{0, 0, 0}},
		{"all different, decreasing", "cba", []int{2, 1, 0}, []int{0, 0, 0}},
		{"bytes compared unsigned", "\x7f\x80\x00\xff", []int{2, 0, 1, 3}, []int{0, 0, 0, 0}},
		{"a null byte is longer than nothing", "a\x00a", []int{1, 2, 0}, []int{0, 0, 1}},
		{"parts of characters", "é\xc3", []int{1, 2, 0}, []int{0, 0, 1}},
		{"lines", "a\na\n", []int{3, 1, 2, 0}, []int{0, 1, 0, 2}},
		{"capital letters first", "aA", []int{1, 0}, []int{0, 0}},
		{"the most bytes", long(600), downFrom(600), upTo(600)},
	}
	for _, c := range cases {
		if got, code := suffix.Sort(c.text); code != api.OK || !slices.Equal(got, c.sorted) {
			t.Errorf("%s: Sort: %v, %v, want %v", c.name, got, code, c.sorted)
		}
		if got, code := suffix.Common(c.text); code != api.OK || !slices.Equal(got, c.common) {
			t.Errorf("%s: Common: %v, %v, want %v", c.name, got, code, c.common)
		}
	}
}

// P13.1: the error of Sort and Common, which come with empty lists.
func TestSortAndCommonErrors(t *testing.T) {
	for _, size := range []int{601, 602, 5000} {
		if got, code := suffix.Sort(long(size)); code != api.ErrSize || len(got) > 0 {
			t.Errorf("Sort of %d bytes: %v, %v", size, got, code)
		}
		if got, code := suffix.Common(long(size)); code != api.ErrSize || len(got) > 0 {
			t.Errorf("Common of %d bytes: %v, %v", size, got, code)
		}
	}
}

// P13.2: the offsets of all occurrences, in increasing order.
func TestFind(t *testing.T) {
	cases := []struct {
		name string
		text string
		find string
		want []int
	}{
		{"example", "aba", "a", []int{0, 2}},
		{"banana", "banana", "an", []int{1, 3}},
		{"overlapping", "banana", "ana", []int{1, 3}},
		{"the order of the text, not of the suffixes", "abacaa", "a", []int{0, 2, 4, 5}},
		{"many overlapping", "aaaa", "aa", []int{0, 1, 2}},
		{"the text", "aba", "aba", []int{0}},
		{"at the end", "abc", "c", []int{2}},
		{"longer than the text", "ab", "abc", nil},
		{"empty text", "", "a", nil},
		{"less than every suffix", "bcd", "a", nil},
		{"greater than every suffix", "bcd", "e", nil},
		{"between the suffixes", "ace", "b", nil},
		{"the beginning of one suffix alone", "abcabd", "abd", []int{3}},
		{"a suffix and more", "ba", "aa", nil},
		{"null bytes", "\x00a\x00\x00", "\x00", []int{0, 2, 3}},
		{"greatest bytes", "\xffa\xff\xff", "\xff\xff", []int{2}},
		{"a part of a character", "éè", "\xc3", []int{0, 2}},
		{"capital letters", "aAa", "A", []int{1}},
		{"the most bytes of both", long(600), long(20), upTo(581)},
		{"the most bytes of the text", long(600), "x", upTo(600)},
	}
	for _, c := range cases {
		if got, code := suffix.Find(c.text, c.find); code != api.OK || !slices.Equal(got, c.want) {
			t.Errorf("%s: %v, %v, want %v", c.name, got, code, c.want)
		}
	}
}

// P13.2: the errors of Find, in their order, with an empty list.
func TestFindErrors(t *testing.T) {
	cases := []struct {
		name string
		text string
		find string
		want api.Errno
	}{
		{"text too long", long(601), "x", api.ErrSize},
		{"find too long", "x", long(21), api.ErrSize},
		{"find too long in an empty text", "", long(21), api.ErrSize},
		{"both too long", long(601), long(21), api.ErrSize},
		{"empty find", "x", "", api.ErrForm},
		{"both empty", "", "", api.ErrForm},
		{"empty find in the longest text", long(600), "", api.ErrForm},
		{"size before form", long(601), "", api.ErrSize},
	}
	for _, c := range cases {
		if got, code := suffix.Find(c.text, c.find); code != c.want || len(got) > 0 {
			t.Errorf("%s: %v, %v, want %v", c.name, got, code, c.want)
		}
	}
}

// P13.2: the number of distinct nonempty substrings.
func TestUnlike(t *testing.T) {
	cases := []struct {
		name string
		text string
		want int
	}{
		{"empty", "", 0},
		{"one byte", "a", 1},
		{"example", "aba", 5},
		{"banana", "banana", 15},
		{"all different", "abcd", 10},
		{"one letter", "aaaa", 4},
		{"null bytes", "\x00\x00", 2},
		{"the most bytes", long(600), 600},
	}
	for _, c := range cases {
		if got, code := suffix.Unlike(c.text); code != api.OK || got != c.want {
			t.Errorf("%s: %v, %v, want %v", c.name, got, code, c.want)
		}
	}
}

// P13.2: the longest substring that occurs again, and the smallest first offset among several.
func TestAgain(t *testing.T) {
	cases := []struct {
		name string
		text string
		at   int
		long int
	}{
		{"empty", "", 0, 0},
		{"one byte", "a", 0, 0},
		{"example", "abab", 0, 2},
		{"banana, overlapping", "banana", 1, 3},
		{"none", "abc", 0, 0},
		{"one letter", "aaaa", 0, 3},
		{"two, the greater one first", "bbaa", 0, 1},
		{"two, the lesser one first", "aabb", 0, 1},
		{"two behind other bytes", "xyzbc.bc,ab:ab", 3, 2},
		{"two, interleaved", "zcdabcdab", 1, 4},
		{"two of the same length, apart", "-ba.ab,ba;ab", 1, 2},
		{"three occurrences", "-ab.ab,ab", 1, 2},
		{"the first one follows in the order of suffixes", "-abz.aby,abx", 1, 2},
		{"a longer one after a shorter one", "aa-bcd.bcd", 3, 3},
		{"parts of characters", "é\xc3", 0, 1},
		{"the most bytes", long(600), 0, 599},
	}
	for _, c := range cases {
		at, size, code := suffix.Again(c.text)
		if code != api.OK || at != c.at || size != c.long {
			t.Errorf("%s: %v, %v, %v, want %v, %v", c.name, at, size, code, c.at, c.long)
		}
	}
}

// P13.2: the error of Unlike and Again, which come with zeros.
func TestUnlikeAndAgainErrors(t *testing.T) {
	for _, size := range []int{601, 602, 5000} {
		if got, code := suffix.Unlike(long(size)); code != api.ErrSize || got != 0 {
			t.Errorf("Unlike of %d bytes: %v, %v", size, got, code)
		}
		if at, n, code := suffix.Again(long(size)); code != api.ErrSize || at != 0 || n != 0 {
			t.Errorf("Again of %d bytes: %v, %v, %v", size, at, n, code)
		}
	}
}

// P13.1, P13.2: all functions over all short texts.
func TestShortTexts(t *testing.T) {
	finds := shortTexts(4, "ab")[1:]
	for _, text := range shortTexts(9, "ab") {
		checkSorted(t, text)
		checkSubstrings(t, text)
		for _, find := range finds {
			checkFind(t, text, find)
		}
	}
	for _, text := range shortTexts(6, "\x00\x7f\xff") {
		checkSorted(t, text)
		checkSubstrings(t, text)
		for _, find := range shortTexts(2, "\x00\x7f\xff")[1:] {
			checkFind(t, text, find)
		}
	}
}

// P13.1, P13.2: all functions over random texts of up to the greatest size.
func TestLongTexts(t *testing.T) {
	r := rand.New(rand.NewSource(13))
	for i := range 60 {
		letters := []string{"ab", "abc", "a\n\x00\xff", "abcdefghijklmnopqrstuvwxyz"}[i%4]
		text := randomText(r, r.Intn(api.MaxText+1), letters)
		if i%5 == 0 {
			part := randomText(r, 1+r.Intn(60), letters)
			text = strings.Repeat(part, api.MaxText/len(part))
		}
		checkSorted(t, text)
		checkSubstrings(t, text[:min(len(text), 200)])
		for range 20 {
			checkFind(t, text, randomText(r, 1+r.Intn(4), letters))
			from := r.Intn(len(text) + 1)
			if find := text[from:min(len(text), from+1+r.Intn(api.MaxFind))]; find != "" {
				checkFind(t, text, find)
			}
		}
	}
}

// P13.2: Again over long texts that hold one part twice, far apart.
func TestAgainLong(t *testing.T) {
	part := strings.Repeat("ab", 100)
	text := "<" + part + ">" + strings.Repeat("c", 150) + "(" + part + ")"
	at, size, code := suffix.Again(text)
	if code != api.OK || at != 1 || size != len(part) {
		t.Errorf("Again: %v, %v, %v, want 1, %v", at, size, code, len(part))
	}
}

// P13.1, P13.2: a call returns lists that no other call returns too.
func TestListsAreNew(t *testing.T) {
	lists := []func() []int{
		func() []int { l, _ := suffix.Sort("banana"); return l },
		func() []int { l, _ := suffix.Common("banana"); return l },
		func() []int { l, _ := suffix.Find("banana", "an"); return l },
	}
	for i, list := range lists {
		want := slices.Clone(list())
		first := list()
		for j := range first {
			first[j] = -1
		}
		if got := list(); !slices.Equal(got, want) {
			t.Errorf("list %d: %v after the first one was changed, want %v", i, got, want)
		}
	}
}
