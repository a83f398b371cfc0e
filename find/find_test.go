package find_test

import (
	"math/rand"
	"slices"
	"strings"
	"testing"

	"fustian/api"
	"fustian/find"
)

func long(size int) string {
	return strings.Repeat("x", size)
}

// upTo returns the numbers that are less than size.
func upTo(size int) []int {
	numbers := make([]int, size)
	for i := range numbers {
		numbers[i] = i
	}
	return numbers
}

// shortTexts returns every text of at most size bytes out of the letters.
func shortTexts(size int, letters string) []string {
	all := []string{""}
	last := all
	for range size {
		var longer []string
		for _, text := range last {
			for i := range len(letters) {
				longer = append(longer, text+letters[i:i+1])
			}
		}
		all = append(all, longer...)
		last = longer
	}
	return all
}

func randomText(r *rand.Rand, size int, letters string) string {
	text := make([]byte, size)
	for i := range text {
		text[i] = letters[r.Intn(len(letters))]
	}
	return string(text)
}

// plainAll tries every offset, independently of the package.
func plainAll(text, s string) []int {
	var offsets []int
	for at := range len(text) {
		if strings.HasPrefix(text[at:], s) {
			offsets = append(offsets, at)
		}
	}
	return offsets
}

// plainBorder tries every size of a border of every prefix.
func plainBorder(s string) []int {
	var borders []int
	for end := 1; end <= len(s); end++ {
		size := end - 1
		for !strings.HasSuffix(s[:end], s[:size]) {
			size--
		}
		borders = append(borders, size)
	}
	return borders
}

// P10.1, All: ordinary searches, overlapping occurrences and the ends of the text.
func TestAll(t *testing.T) {
	cases := []struct {
		name string
		text string
		find string
		want []int
	}{
		{"example", "aaa", "aa", []int{0, 1}},
		{"empty text", "", "a", nil},
		{"not there", "abc", "d", nil},
		{"only a head is there", "abab", "abc", nil},
		{"only a tail is there", "bcbc", "abc", nil},
		{"longer than the text", "ab", "abc", nil},
		{"the whole text", "abc", "abc", []int{0}},
		{"at both ends", "abcab", "ab", []int{0, 3}},
		{"one byte", "abcaba", "a", []int{0, 3, 5}},
		{"side by side", "ababab", "ab", []int{0, 2, 4}},
		{"overlapping by one byte", "abababa", "aba", []int{0, 2, 4}},
		{"overlapping by most of it", "aaaaaa", "aaaa", []int{0, 1, 2}},
		{"behind a head that fails", "aabaabaaab", "aabaaab", []int{3}},
		{"behind several heads that fail", "ababacabababac", "ababac", []int{0, 8}},
		{"falls back twice", "aabaaabaabb", "aabaabb", []int{4}},
		{"by case", "Ab aB ab AB", "ab", []int{6}},
		{"lines", "a\n\nb\n\n\n", "\n\n", []int{1, 4, 5}},
		{"bytes of characters", "äöä", "\xa4", []int{1, 5}},
		{"not valid as characters", "\xff\x00\xff\x00\xff", "\xff\x00\xff", []int{0, 2}},
		{"longest string", "ab" + long(21), long(20), []int{2, 3}},
		{"longest string is the text", long(20), long(20), []int{0}},
		{"everywhere", long(600), "x", upTo(600)},
		{"overlapping everywhere", long(600), long(20), upTo(581)},
		{"at the limit", strings.Repeat(" ", 598) + "ab", "ab", []int{598}},
	}
	for _, c := range cases {
		if got, code := find.All(c.text, c.find); !slices.Equal(got, c.want) || code != api.OK {
			t.Errorf("%s: All(%q, %q) = %v, %v, want %v, OK", c.name, c.text, c.find, got, code, c.want)
		}
	}
}

// P10.1, All: its errors in order, beside which there are no offsets.
func TestAllErrors(t *testing.T) {
	cases := []struct {
		name string
		text string
		find string
		want api.Errno
	}{
		{"empty string", "a", "", api.ErrForm},
		{"empty string in the empty text", "", "", api.ErrForm},
		{"empty string in the largest text", long(600), "", api.ErrForm},
		{"largest text", long(600), "y", api.OK},
		{"too large text", long(601), "x", api.ErrSize},
		{"far too large text", long(100000), "x", api.ErrSize},
		{"longest string", "a", long(20), api.OK},
		{"too long a string", long(600), long(21), api.ErrSize},
		{"too long a string in the empty text", "", long(21), api.ErrSize},
		{"far too long a string", "a", long(100000), api.ErrSize},
		{"both are too long", long(601), long(21), api.ErrSize},
		{"text before the empty string", long(601), "", api.ErrSize},
	}
	for _, c := range cases {
		got, code := find.All(c.text, c.find)
		if code != c.want || len(got) != 0 {
			t.Errorf("%s: All(%d bytes, %d bytes) = %v, %v, want no offsets, %v", c.name, len(c.text), len(c.find), got, code, c.want)
		}
	}
}

// P10.1, Border: ordinary strings, those that repeat themselves, and the limit.
func TestBorder(t *testing.T) {
	cases := []struct {
		name string
		s    string
		want []int
	}{
		{"example", "aab", []int{0, 1, 0}},
		{"empty string", "", nil},
		{"one byte", "a", []int{0}},
		{"different bytes", "abcd", []int{0, 0, 0, 0}},
		{"the same byte", "aaaa", []int{0, 1, 2, 3}},
		{"ends as it begins", "abcab", []int{0, 0, 0, 1, 2}},
		{"repeated", "ababab", []int{0, 0, 1, 2, 3, 4}},
		{"back to a shorter border", "aabaaab", []int{0, 1, 0, 1, 2, 2, 3}},
		{"back by several borders", "abacabadabacabab", []int{0, 0, 1, 0, 1, 2, 3, 0, 1, 2, 3, 4, 5, 6, 7, 2}},
		{"back to nothing", "aaab", []int{0, 1, 2, 0}},
		{"any bytes", "\x00\xff\x00\xff\xff", []int{0, 0, 1, 2, 0}},
		{"longer than a string to find", long(21), upTo(21)},
		{"largest string", long(600), upTo(600)},
		{"largest string with another end", long(599) + "y", append(upTo(599), 0)},
		{"largest string of two parts", long(299) + "y" + long(299) + "y", append(append(upTo(299), 0), append(upTo(300)[1:], 300)...)},
	}
	for _, c := range cases {
		if got, code := find.Border(c.s); !slices.Equal(got, c.want) || code != api.OK {
			t.Errorf("%s: Border(%q) = %v, %v, want %v, OK", c.name, c.s, got, code, c.want)
		}
	}
}

// P10.1, Border: its error, beside which there are no lengths.
func TestBorderErrors(t *testing.T) {
	for _, s := range []string{long(601), strings.Repeat("ab", 301), long(100000)} {
		if got, code := find.Border(s); len(got) != 0 || code != api.ErrSize {
			t.Errorf("Border of %d bytes = %v, %v, want ErrSize", len(s), got, code)
		}
	}
}

// P10.1, All: every short string in every short text.
func TestAllShort(t *testing.T) {
	finds := shortTexts(5, "ab")[1:]
	for _, text := range shortTexts(9, "ab") {
		for _, s := range finds {
			want := plainAll(text, s)
			if got, code := find.All(text, s); !slices.Equal(got, want) || code != api.OK {
				t.Fatalf("All(%q, %q) = %v, %v, want %v, OK", text, s, got, code, want)
			}
		}
	}
}

// P10.1, Border: every short string.
func TestBorderShort(t *testing.T) {
	for _, s := range append(shortTexts(12, "ab"), shortTexts(7, "abc")...) {
		want := plainBorder(s)
		if got, code := find.Border(s); !slices.Equal(got, want) || code != api.OK {
			t.Fatalf("Border(%q) = %v, %v, want %v, OK", s, got, code, want)
		}
	}
}

// P10.1: long texts of few letters, in which strings of their own bytes are searched for.
func TestAllLong(t *testing.T) {
	r := rand.New(rand.NewSource(10))
	for range 2000 {
		letters := []string{"a", "ab", "aab", "aaaaab", "abc\n\x00\xff"}[r.Intn(5)]
		text := randomText(r, r.Intn(601), letters)
		s := randomText(r, 1+r.Intn(20), letters)
		if r.Intn(2) == 0 && len(text) > len(s) {
			at := r.Intn(len(text) - len(s))
			s = text[at : at+len(s)]
		}
		if got, code := find.All(text, s); !slices.Equal(got, plainAll(text, s)) || code != api.OK {
			t.Fatalf("All(%q, %q) = %v, %v, want %v, OK", text, s, got, code, plainAll(text, s))
		}
		if got, code := find.Border(text); !slices.Equal(got, plainBorder(text)) || code != api.OK {
			t.Fatalf("Border(%q) = %v, %v, want %v, OK", text, got, code, plainBorder(text))
		}
	}
}

// P10.1 to P10.3: every byte is found as itself only.
func TestBytes(t *testing.T) {
	every := make([]byte, 512)
	for i := range every {
		every[i] = byte(i)
	}
	text := string(every)
	for c := range 256 {
		b := string([]byte{byte(c)})
		if got, code := find.All(text, b); !slices.Equal(got, []int{c, c + 256}) || code != api.OK {
			t.Errorf("All(every byte twice, %q) = %v, %v", b, got, code)
		}
		want := text[:c] + "\n." + text[c+1:c+256] + "\n." + text[c+257:]
		if got, count, code := find.Replace(text, b, "\n."); got != want || count != 2 || code != api.OK {
			t.Errorf("Replace(every byte twice, %q, a line feed and a point) = %q, %d, %v", b, got, count, code)
		}
		hits := []api.Hit{{At: c, Find: 0}, {At: c + 256, Find: 0}}
		if got, code := find.Many(text, []string{b}); !slices.Equal(got, hits) || code != api.OK {
			t.Errorf("Many(every byte twice, %q) = %v, %v, want %v, OK", b, got, code, hits)
		}
	}
}

// P10.1: a list that is returned is not kept, nor is its spare memory.
func TestListsAreNew(t *testing.T) {
	spoil := func(list []int) {
		list = list[:cap(list)]
		for i := range list {
			list[i] = -7
		}
	}
	for range 3 {
		offsets, _ := find.All("aaaaa", "aa")
		borders, _ := find.Border("aaaaa")
		if !slices.Equal(offsets, []int{0, 1, 2, 3}) || !slices.Equal(borders, []int{0, 1, 2, 3, 4}) {
			t.Fatalf("All and Border: %v and %v after lists were overwritten", offsets, borders)
		}
		spoil(offsets)
		if !slices.Equal(borders, []int{0, 1, 2, 3, 4}) {
			t.Fatalf("Border: %v after a list of All was overwritten", borders)
		}
		spoil(borders)
	}
}
