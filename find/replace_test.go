package find_test

import (
	"math/rand"
	"strings"
	"testing"

	"fustian/api"
	"fustian/find"
)

// plainReplace goes through text byte by byte, independently of the package.
func plainReplace(text, s, put string) (string, int) {
	var result []byte
	count := 0
	for text != "" {
		if strings.HasPrefix(text, s) {
			result = append(result, put...)
			count++
			text = text[len(s):]
		} else {
			result = append(result, text[0])
			text = text[1:]
		}
	}
	return string(result), count
}

// P10.2: ordinary replacements, overlapping occurrences, and replacements that make or undo occurrences.
func TestReplace(t *testing.T) {
	cases := []struct {
		name  string
		text  string
		find  string
		put   string
		want  string
		count int
	}{
		{"example", "aaa", "aa", "b", "ba", 1},
		{"empty text", "", "a", "b", "", 0},
		{"not there", "abc", "d", "e", "abc", 0},
		{"the whole text", "abc", "abc", "de", "de", 1},
		{"the whole text by nothing", "abc", "abc", "", "", 1},
		{"first and last", "abcab", "ab", "xyz", "xyzcxyz", 2},
		{"by nothing", "abcabc", "b", "", "acac", 2},
		{"by as many bytes", "abcabc", "bc", "de", "adeade", 2},
		{"by itself", "abab", "ab", "ab", "abab", 2},
		{"by more than itself", "aa", "a", "aa", "aaaa", 2},
		{"by what overlaps what follows", "aab", "a", "ab", "ababb", 2},
		{"not again in the result", "aabb", "ab", "", "ab", 1},
		{"not again across a replacement", "abcbc", "abc", "a", "abc", 1},
		{"from the left", "aaaaa", "aa", "b", "bba", 2},
		{"from the left with an overlap", "ababab", "abab", "x", "xab", 1},
		{"behind an overlap", "abababa", "aba", "x", "xbx", 2},
		{"behind several overlaps", "aaaaaaa", "aaa", "x", "xxa", 2},
		{"side by side", "ababab", "ab", "x", "xxx", 3},
		{"lines", "a\nb\n", "\n", "\r\n", "a\r\nb\r\n", 2},
		{"bytes of characters", "ää", "\xa4", "\xb6", "öö", 2},
		{"no patterns", "a.c abc", "a.c", "$0", "$0 abc", 1},
		{"longest string", long(41), long(20), "y", "yyx", 2},
		{"largest text", long(600), "x", "y", strings.Repeat("y", 600), 600},
		{"largest text by nothing", long(600), "x", "", "", 600},
		{"largest result", long(300), "x", "ab", strings.Repeat("ab", 300), 300},
		{"largest result of one replacement", "x", "x", strings.Repeat("y", 600), strings.Repeat("y", 600), 1},
		{"largest result with overlaps", long(600), "xx", "yz", strings.Repeat("yz", 300), 300},
		{"largest result with many overlaps", long(599) + "a", long(20), strings.Repeat("y", 20), strings.Repeat("y", 580) + long(19) + "a", 29},
		{"far too long a text is not put", "abc", "d", long(100000), "abc", 0},
		{"far too long a text is not put into nothing", "", "d", long(100000), "", 0},
	}
	for _, c := range cases {
		got, count, code := find.Replace(c.text, c.find, c.put)
		if got != c.want || count != c.count || code != api.OK {
			t.Errorf("%s: Replace(%q, %q, %d bytes) = %q, %d, %v, want %q, %d, OK", c.name, c.text, c.find, len(c.put), got, count, code, c.want, c.count)
		}
	}
}

// P10.2: its errors in order, beside which there are neither a text nor a number.
func TestReplaceErrors(t *testing.T) {
	cases := []struct {
		name string
		text string
		find string
		put  string
		want api.Errno
	}{
		{"empty string", "a", "", "b", api.ErrForm},
		{"empty string in the empty text", "", "", "", api.ErrForm},
		{"empty string before the result", "a", "", long(601), api.ErrForm},
		{"too large text", long(601), "x", "", api.ErrSize},
		{"too large text without occurrences", long(601), "y", "", api.ErrSize},
		{"text before the empty string", long(601), "", "", api.ErrSize},
		{"too long a string", long(30), long(21), "", api.ErrSize},
		{"far too long a string", "", long(100000), "", api.ErrSize},
		{"result", "a", "a", long(601), api.ErrSize},
		{"result by one byte", long(300) + "y", "x", "ab", api.ErrSize},
		{"result of one replacement", long(599) + "y", "y", "ab", api.ErrSize},
		{"result of the largest text", long(600), "x", "xx", api.ErrSize},
		{"result with overlaps", long(599), "xx", "abcde", api.ErrSize},
		{"far too large result", long(600), "x", long(1000000), api.ErrSize},
	}
	for _, c := range cases {
		got, count, code := find.Replace(c.text, c.find, c.put)
		if got != "" || count != 0 || code != c.want {
			t.Errorf("%s: Replace(%d bytes, %q, %d bytes) = %q, %d, %v, want %v", c.name, len(c.text), c.find, len(c.put), got, count, code, c.want)
		}
	}
}

// sameReplace compares Replace with the plain one, whose result may be too large.
func sameReplace(t *testing.T, text, s, put string) {
	t.Helper()
	want, wantCount := plainReplace(text, s, put)
	wantCode := api.OK
	if len(want) > 600 {
		want, wantCount, wantCode = "", 0, api.ErrSize
	}
	got, count, code := find.Replace(text, s, put)
	if got != want || count != wantCount || code != wantCode {
		t.Fatalf("Replace(%q, %q, %q) = %q, %d, %v, want %q, %d, %v", text, s, put, got, count, code, want, wantCount, wantCode)
	}
}

// P10.2: every short string in every short text by short texts.
func TestReplaceShort(t *testing.T) {
	finds := shortTexts(3, "ab")[1:]
	puts := shortTexts(2, "ac")
	for _, text := range shortTexts(7, "ab") {
		for _, s := range finds {
			for _, put := range puts {
				sameReplace(t, text, s, put)
			}
		}
	}
}

// P10.2: long texts, the results of which are around the largest size.
func TestReplaceLong(t *testing.T) {
	r := rand.New(rand.NewSource(102))
	for range 2000 {
		letters := []string{"a", "ab", "aab", "abc\n\xff"}[r.Intn(4)]
		text := randomText(r, r.Intn(601), letters)
		s := randomText(r, 1+r.Intn(1+r.Intn(20)), letters)
		put := randomText(r, r.Intn(2*len(s)+2), letters)
		sameReplace(t, text, s, put)
	}
}

// P10.2: results of all sizes from less than the largest one to more.
func TestReplaceLimit(t *testing.T) {
	puts := []string{"", "a", "ab", "abc", "abcd", long(597), long(598), long(599)}
	for size := 1; size <= 600; size++ {
		for _, put := range puts {
			sameReplace(t, long(size), "xx", put)
			sameReplace(t, strings.Repeat("y", size-1)+"x", "x", put)
		}
	}
}
