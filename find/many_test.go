package find_test

import (
	"fmt"
	"math/rand"
	"slices"
	"strings"
	"testing"

	"fustian/api"
	"fustian/find"
)

func hit(at, find int) api.Hit {
	return api.Hit{At: at, Find: find}
}

// plainMany compares every string with what is ahead of every end, independently of the package.
func plainMany(text string, finds []string) []api.Hit {
	var hits []api.Hit
	for end := 1; end <= len(text); end++ {
		for at := range end {
			if i := slices.Index(finds, text[at:end]); i >= 0 {
				hits = append(hits, hit(at, i))
			}
		}
	}
	return hits
}

// runs returns strings of one letter: the shortest one first, or last.
func runs(count int, shortestFirst bool) []string {
	var finds []string
	for size := 1; size <= count; size++ {
		finds = append(finds, long(size))
	}
	if !shortestFirst {
		slices.Reverse(finds)
	}
	return finds
}

// different returns so many strings of that size, no two of them equal.
func different(count, size int) []string {
	var finds []string
	for i := range count {
		finds = append(finds, fmt.Sprintf("%0*d", size, i))
	}
	return finds
}

// P10.3: ordinary lists of strings, and the order of the occurrences.
func TestMany(t *testing.T) {
	cases := []struct {
		name  string
		text  string
		finds []string
		want  []api.Hit
	}{
		{"example", "ab", []string{"b", "ab"}, []api.Hit{hit(0, 1), hit(1, 0)}},
		{"no strings", "ab", nil, nil},
		{"empty list of strings", "ab", []string{}, nil},
		{"empty text", "", []string{"a", "b"}, nil},
		{"no strings in the empty text", "", nil, nil},
		{"not there", "abc", []string{"ac", "d", "abcd"}, nil},
		{"one string", "abcab", []string{"ab"}, []api.Hit{hit(0, 0), hit(3, 0)}},
		{"one string that overlaps itself", "aaaa", []string{"aa"}, []api.Hit{hit(0, 0), hit(1, 0), hit(2, 0)}},
		{"known example", "ushers", []string{"he", "she", "his", "hers"}, []api.Hit{hit(1, 1), hit(2, 0), hit(2, 3)}},
		{"by the end, not the start", "abcd", []string{"abcd", "bc"}, []api.Hit{hit(1, 1), hit(0, 0)}},
		{"heads of each other", "abc", []string{"abc", "ab", "a"}, []api.Hit{hit(0, 2), hit(0, 1), hit(0, 0)}},
		{"tails of each other", "abc", []string{"c", "abc", "bc"}, []api.Hit{hit(0, 1), hit(1, 2), hit(2, 0)}},
		{"tails of each other in another order", "abc", []string{"abc", "bc", "c"}, []api.Hit{hit(0, 0), hit(1, 1), hit(2, 2)}},
		{"the middle of another one", "abcde", []string{"abcde", "c"}, []api.Hit{hit(2, 1), hit(0, 0)}},
		{"a tail of a head of another one", "abcx", []string{"abcd", "bc"}, []api.Hit{hit(1, 1)}},
		{"a tail that is no tail of the nearest head", "xabcb", []string{"abcd", "bcx", "c"}, []api.Hit{hit(3, 2)}},
		{"on in another string", "abcd", []string{"abx", "bcd"}, []api.Hit{hit(1, 1)}},
		{"on in a third string", "abcde", []string{"abcx", "bcdx", "cde"}, []api.Hit{hit(2, 2)}},
		{"on after several strings fail", "aabaabb", []string{"aabaac", "abaabc", "baabb"}, []api.Hit{hit(2, 2)}},
		{"from the start again", "abxab", []string{"abc", "ab"}, []api.Hit{hit(0, 1), hit(3, 1)}},
		{"single bytes", "abca", []string{"c", "a"}, []api.Hit{hit(0, 1), hit(2, 0), hit(3, 1)}},
		{"by case", "aA", []string{"A", "a"}, []api.Hit{hit(0, 1), hit(1, 0)}},
		{"any bytes", "\x00\xff\n\xff", []string{"\xff", "\x00\xff\n", "\n\xff"}, []api.Hit{hit(1, 0), hit(0, 1), hit(2, 2), hit(3, 0)}},
		{"longest string", "a" + long(20), []string{long(20), "a" + long(19)}, []api.Hit{hit(0, 1), hit(1, 0)}},
		{"at the limit", strings.Repeat(" ", 598) + "ab", []string{"ab", "b"}, []api.Hit{hit(598, 0), hit(599, 1)}},
		{"most strings", "1917", different(20, 2), []api.Hit{hit(0, 19), hit(2, 17)}},
	}
	for _, c := range cases {
		if got, code := find.Many(c.text, c.finds); !slices.Equal(got, c.want) || code != api.OK {
			t.Errorf("%s: Many(%q, %q) = %v, %v, want %v, OK", c.name, c.text, c.finds, got, code, c.want)
		}
	}
}

// P10.3: the most occurrences that there can be, in any order of the strings.
func TestManyMost(t *testing.T) {
	text := long(600)
	var want []api.Hit
	for end := 1; end <= 600; end++ {
		for size := min(end, 20); size > 0; size-- {
			want = append(want, hit(end-size, size-1))
		}
	}
	if got, code := find.Many(text, runs(20, true)); !slices.Equal(got, want) || code != api.OK {
		t.Errorf("Many(the largest text, all runs) = %d hits, %v, want %d, OK", len(got), code, len(want))
	}
	for i := range want {
		want[i].Find = 19 - want[i].Find
	}
	if got, code := find.Many(text, runs(20, false)); !slices.Equal(got, want) || code != api.OK {
		t.Errorf("Many(the largest text, all runs, the longest first) = %d hits, %v, want %d, OK", len(got), code, len(want))
	}
}

// P10.3: its errors in order, beside which there are no occurrences.
func TestManyErrors(t *testing.T) {
	with := func(finds []string, more ...string) []string {
		return append(slices.Clone(finds), more...)
	}
	cases := []struct {
		name  string
		text  string
		finds []string
		want  api.Errno
	}{
		{"empty string", "a", []string{""}, api.ErrForm},
		{"empty string among others", "a", []string{"b", "", "c"}, api.ErrForm},
		{"empty string in the empty text", "", []string{""}, api.ErrForm},
		{"the same string twice", "ab", []string{"a", "a"}, api.ErrForm},
		{"the same string later", "ab", []string{"c", "a", "b", "c"}, api.ErrForm},
		{"the last of the most strings", "ab", with(different(19, 20), different(1, 20)...), api.ErrForm},
		{"strings with the same head", "b", []string{"a", "aa", "ab"}, api.OK},
		{"largest text", long(600), []string{"a"}, api.OK},
		{"too large text", long(601), []string{"x"}, api.ErrSize},
		{"too large text without strings", long(601), nil, api.ErrSize},
		{"far too large text", long(100000), []string{"x"}, api.ErrSize},
		{"most strings", "x", different(20, 20), api.OK},
		{"too many strings", "0", different(21, 2), api.ErrSize},
		{"too many strings in the empty text", "", different(21, 2), api.ErrSize},
		{"far too many strings", "0", different(10000, 5), api.ErrSize},
		{"too long a string", long(30), []string{long(21)}, api.ErrSize},
		{"too long a string among others", "x", []string{"a", long(21), "b"}, api.ErrSize},
		{"far too long a string", "x", []string{"a", long(100000)}, api.ErrSize},
		{"text before the empty string", long(601), []string{""}, api.ErrSize},
		{"text before the same string", long(601), []string{"a", "a"}, api.ErrSize},
		{"number before the empty string", "a", with([]string{""}, different(20, 2)...), api.ErrSize},
		{"number before the same string", "a", with(different(20, 2), "00"), api.ErrSize},
		{"empty string before a long one", "a", []string{"", long(21)}, api.ErrForm},
		{"long string before the empty one", "a", []string{long(21), ""}, api.ErrSize},
		{"same string before a long one", "a", []string{"a", "a", long(21)}, api.ErrForm},
		{"long string before the same one", "a", []string{"a", long(21), "a"}, api.ErrSize},
		{"same long string", "a", []string{long(21), long(21)}, api.ErrSize},
	}
	for _, c := range cases {
		got, code := find.Many(c.text, c.finds)
		if code != c.want || len(got) != 0 {
			t.Errorf("%s: Many(%d bytes, %d strings) = %v, %v, want no hits, %v", c.name, len(c.text), len(c.finds), got, code, c.want)
		}
	}
}

// P10.3: any three short strings in any short text.
func TestManyShort(t *testing.T) {
	texts := shortTexts(6, "ab")
	finds := shortTexts(3, "ab")[1:]
	for _, a := range finds {
		for _, b := range finds {
			for _, c := range finds {
				if a == b || b == c || a == c {
					continue
				}
				list := []string{a, b, c}
				for _, text := range texts {
					want := plainMany(text, list)
					if got, code := find.Many(text, list); !slices.Equal(got, want) || code != api.OK {
						t.Fatalf("Many(%q, %q) = %v, %v, want %v, OK", text, list, got, code, want)
					}
				}
			}
		}
	}
}

// P10.3: long texts and many strings of few letters, parts of the text and of each other among them.
func TestManyLong(t *testing.T) {
	r := rand.New(rand.NewSource(103))
	for range 2000 {
		letters := []string{"ab", "aaab", "abc", "abcd\n\x00\xff"}[r.Intn(4)]
		text := randomText(r, r.Intn(601), letters)
		var finds []string
		for range r.Intn(21) {
			from := text
			if r.Intn(2) == 0 && len(finds) > 0 {
				from = finds[r.Intn(len(finds))]
			}
			s := randomText(r, 1+r.Intn(1+r.Intn(20)), letters)
			if at := r.Intn(len(from) + 1); r.Intn(3) > 0 && at < len(from) {
				s = from[at:min(len(from), at+len(s))]
			}
			if !slices.Contains(finds, s) {
				finds = append(finds, s)
			}
		}
		want := plainMany(text, finds)
		if got, code := find.Many(text, finds); !slices.Equal(got, want) || code != api.OK {
			t.Fatalf("Many(%q, %q) = %v, %v, want %v, OK", text, finds, got, code, want)
		}
	}
}

// P10.3: the list of strings with its spare capacity stays as it is, and a list that is returned is not kept.
func TestManyLists(t *testing.T) {
	memory := []string{"ab", "b", "a", "spare", "spare"}
	before := slices.Clone(memory)
	want := []api.Hit{hit(0, 2), hit(0, 0), hit(1, 1)}
	for range 3 {
		got, code := find.Many("ab", memory[:3])
		if !slices.Equal(got, want) || code != api.OK {
			t.Fatalf("Many: %v, %v, want %v, OK", got, code, want)
		}
		got = got[:cap(got)]
		for i := range got {
			got[i] = hit(-7, -7)
		}
		if !slices.Equal(memory, before) {
			t.Fatalf("Many changed its strings to %q", memory)
		}
	}
}
