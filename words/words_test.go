package words_test

import (
	"math"
	"math/rand"
	"regexp"
	"slices"
	"strings"
	"testing"

	"fustian/api"
	"fustian/words"
)

func cut(at, count int) api.Edit       { return api.Edit{At: at, Cut: count} }
func put(at int, text string) api.Edit { return api.Edit{At: at, Put: text} }

func swap(at, count int, text string) api.Edit {
	return api.Edit{At: at, Cut: count, Put: text}
}

func long(size int) string {
	return strings.Repeat("x", size)
}

func word(text string, at ...int) api.Word {
	return api.Word{Text: text, At: at}
}

func sameWord(a, b api.Word) bool {
	return a.Text == b.Text && slices.Equal(a.At, b.At)
}

func same(a, b []api.Word) bool {
	return slices.EqualFunc(a, b, sameWord)
}

func deepClone(index []api.Word) []api.Word {
	var copied []api.Word
	for _, w := range index {
		copied = append(copied, word(w.Text, slices.Clone(w.At)...))
	}
	return copied
}

var (
	run     = regexp.MustCompile(`[0-9A-Za-z]+`)
	tooLong = regexp.MustCompile(`[0-9A-Za-z]{13}`)
)

// plainIndex inserts each word at its place in the index, independently of the package.
func plainIndex(text string) []api.Word {
	var index []api.Word
	for _, ends := range run.FindAllStringIndex(text, -1) {
		found := text[ends[0]:ends[1]]
		if len(found) > 12 {
			continue
		}
		i := 0
		for i < len(index) && index[i].Text < found {
			i++
		}
		if i == len(index) || index[i].Text != found {
			index = slices.Insert(index, i, word(found))
		}
		index[i].At = append(index[i].At, ends[0])
	}
	return index
}

// plainFind tries every offset of text for a single indexed word.
func plainFind(text, w string) []int {
	var offsets []int
	for at := range len(text) {
		end := at + len(w)
		if strings.HasPrefix(text[at:], w) && !isWordByte(text, at-1) && !isWordByte(text, end) {
			offsets = append(offsets, at)
		}
	}
	return offsets
}

const wordBytes = "0123456789ABCDEFGHIJKLMNOPQRSTUVWXYZabcdefghijklmnopqrstuvwxyz"

func isWordByte(text string, at int) bool {
	return 0 <= at && at < len(text) && strings.IndexByte(wordBytes, text[at]) >= 0
}

// shortTexts returns every text of at most size bytes out of the letters.
func shortTexts(size int, letters string) []string {
	all := []string{""}
	last := all
	for range size {
		var longer []string
		for _, text := range last {
			for i := range len(letters) {
				longer = append(longer, text+letters[i:i+1])
			}
		}
		all = append(all, longer...)
		last = longer
	}
	return all
}

// everySecond returns the even offsets that are less than size.
func everySecond(size int) []int {
	var offsets []int
	for at := 0; at < size; at += 2 {
		offsets = append(offsets, at)
	}
	return offsets
}

// P9.1, All: ordinary texts, the ends of words, their order and their lengths.
func TestAll(t *testing.T) {
	cases := []struct {
		name string
		text string
		want []api.Word
	}{
		{"empty text", "", nil},
		{"no word", " \n.,-_\x00\xff", nil},
		{"one word", "ab", []api.Word{word("ab", 0)}},
		{"example", "b a b", []api.Word{word("a", 2), word("b", 0, 4)}},
		{"in order", "c b a", []api.Word{word("a", 4), word("b", 2), word("c", 0)}},
		{"a prefix first", "ab a abc", []api.Word{word("a", 3), word("ab", 0), word("abc", 5)}},
		{"by bytes", "b B 1 a A z Z", []api.Word{word("1", 4), word("A", 8), word("B", 2), word("Z", 12), word("a", 6), word("b", 0), word("z", 10)}},
		{"numbers as texts", "9 10 010", []api.Word{word("010", 5), word("10", 2), word("9", 0)}},
		{"digits and letters", "a1B2 1a", []api.Word{word("1a", 5), word("a1B2", 0)}},
		{"by case", "ab AB aB", []api.Word{word("AB", 3), word("aB", 6), word("ab", 0)}},
		{"maximal", "aab aa b", []api.Word{word("aa", 4), word("aab", 0), word("b", 7)}},
		{"not alphabetic", "a_b-c'd", []api.Word{word("a", 0), word("b", 2), word("c", 4), word("d", 6)}},
		{"lines", "ab\ncd\r\nab", []api.Word{word("ab", 0, 7), word("cd", 3)}},
		{"spaces around", "  ab  ", []api.Word{word("ab", 2)}},
		{"neighbours of the ranges", "a@b[c`d{e/f:g", []api.Word{word("a", 0), word("b", 2), word("c", 4), word("d", 6), word("e", 8), word("f", 10), word("g", 12)}},
		{"ends of the ranges", "azAZ09", []api.Word{word("azAZ09", 0)}},
		{"bytes of characters", "äa\u0661b\u212ac", []api.Word{word("a", 2), word("b", 5), word("c", 9)}},
		{"not valid as characters", "a\xffb\xc1c", []api.Word{word("a", 0), word("b", 2), word("c", 4)}},
		{"longest word", long(12), []api.Word{word(long(12), 0)}},
		{"too long a word", long(13), nil},
		{"too long a word among others", "a " + long(13) + " b", []api.Word{word("a", 0), word("b", 16)}},
		{"no parts of long words", long(12) + "y " + long(24) + " x", []api.Word{word("x", 39)}},
		{"longest words side by side", long(12) + "." + long(12), []api.Word{word(long(12), 0, 13)}},
		{"largest text without a word", strings.Repeat(" ", 600), nil},
		{"largest text of a word", long(600), nil},
		{"most words", strings.Repeat("a ", 300), []api.Word{word("a", everySecond(600)...)}},
		{"at the limit", strings.Repeat(" ", 599) + "a", []api.Word{word("a", 599)}},
	}
	for _, c := range cases {
		if got, code := words.All(c.text); !same(got, c.want) || code != api.OK {
			t.Errorf("%s: All(%q) = %v, %v, want %v, OK", c.name, c.text, got, code, c.want)
		}
	}
}

// P9.1, All: its error, beside which there are no words.
func TestAllErrors(t *testing.T) {
	for _, text := range []string{long(601), strings.Repeat("a ", 300) + "a", strings.Repeat(" ", 601), long(100000)} {
		if got, code := words.All(text); len(got) != 0 || code != api.ErrSize {
			t.Errorf("All of %d bytes = %v, %v, want ErrSize", len(text), got, code)
		}
	}
}

// P9.1: which bytes are of words, alone, in between and as a word to find.
func TestBytes(t *testing.T) {
	for c := range 256 {
		b := string([]byte{byte(c)})
		var alone []api.Word
		between := []api.Word{word("x", 0, 2)}
		wantCode := api.ErrForm
		var at []int
		if strings.Contains(wordBytes, b) {
			alone = []api.Word{word(b, 0)}
			between = []api.Word{word("x"+b+"x", 0)}
			wantCode, at = api.OK, []int{0}
		}
		if got, code := words.All(b); !same(got, alone) || code != api.OK {
			t.Errorf("All(%q) = %v, %v, want %v, OK", b, got, code, alone)
		}
		if got, code := words.All("x" + b + "x"); !same(got, between) || code != api.OK {
			t.Errorf("All(%q) = %v, %v, want %v, OK", "x"+b+"x", got, code, between)
		}
		if got, code := words.Find(b, b); !slices.Equal(got, at) || code != wantCode {
			t.Errorf("Find(%q, the same) = %v, %v, want %v, %v", b, got, code, at, wantCode)
		}
		if _, code := words.Find("", "x"+b+"x"); code != wantCode {
			t.Errorf("Find of %q: %v, want %v", "x"+b+"x", code, wantCode)
		}
	}
}

// P9.1, All and Find: every short text, with every short word.
func TestShortTexts(t *testing.T) {
	var whole, other []string
	for _, w := range shortTexts(3, "aB0 ") {
		if w != "" && !strings.Contains(w, " ") {
			whole = append(whole, w)
		} else {
			other = append(other, w)
		}
	}
	for _, text := range shortTexts(5, "aB0 ") {
		want := plainIndex(text)
		if got, code := words.All(text); !same(got, want) || code != api.OK {
			t.Fatalf("All(%q) = %v, %v, want %v, OK", text, got, code, want)
		}
		for _, w := range whole {
			if got, code := words.Find(text, w); !slices.Equal(got, plainFind(text, w)) || code != api.OK {
				t.Fatalf("Find(%q, %q) = %v, %v, want %v, OK", text, w, got, code, plainFind(text, w))
			}
		}
		for _, w := range other {
			if got, code := words.Find(text, w); len(got) != 0 || code != api.ErrForm {
				t.Fatalf("Find(%q, %q) = %v, %v, want ErrForm", text, w, got, code)
			}
		}
	}
}

// P9.1, Find: ordinary words and those that are only parts.
func TestFind(t *testing.T) {
	cases := []struct {
		name string
		text string
		word string
		want []int
	}{
		{"example", "ab a", "a", []int{3}},
		{"not there", "ab a", "b", nil},
		{"empty text", "", "a", nil},
		{"the whole text", "ab", "ab", []int{0}},
		{"longer than the text", "a", "ab", nil},
		{"often", "a b a\na", "a", []int{0, 4, 6}},
		{"neither head, tail nor middle", "ax xa xax a", "a", []int{10}},
		{"by case", "Ab aB ab AB", "ab", []int{6}},
		{"no shorter word", "aa a aa", "aa", []int{0, 5}},
		{"a number", "1 01 10 1", "1", []int{0, 8}},
		{"longest word", long(13) + " " + long(12) + " " + long(11), long(12), []int{14}},
		{"head of a word that is too long", "a" + long(12), "a", nil},
		{"head of twelve bytes", long(12) + "y " + long(24), long(12), nil},
		{"twelfth byte on", long(12) + "y", "y", nil},
		{"beside other bytes", "äab_ab\xffab", "ab", []int{2, 5, 8}},
		{"most words", strings.Repeat("a ", 300), "a", everySecond(600)},
		{"at the limit", strings.Repeat(" ", 599) + "a", "a", []int{599}},
	}
	for _, c := range cases {
		if got, code := words.Find(c.text, c.word); !slices.Equal(got, c.want) || code != api.OK {
			t.Errorf("%s: Find(%q, %q) = %v, %v, want %v, OK", c.name, c.text, c.word, got, code, c.want)
		}
	}
}

// P9.1, Find: its errors in order, beside which there are no offsets.
func TestFindErrors(t *testing.T) {
	cases := []struct {
		name string
		text string
		word string
		want api.Errno
	}{
		{"no word", "a", "", api.ErrForm},
		{"no word in the empty text", "", "", api.ErrForm},
		{"another byte", "a b", " ", api.ErrForm},
		{"two words", "a b", "a b", api.ErrForm},
		{"the same word twice", "a a", "a a", api.ErrForm},
		{"another byte ahead", "a b", " a", api.ErrForm},
		{"another byte behind", "a b", "a ", api.ErrForm},
		{"line feed behind", "a\n", "a\n", api.ErrForm},
		{"not of letters a to z", "ä", "ä", api.ErrForm},
		{"a digit of another script", "\u0661", "\u0661", api.ErrForm},
		{"longest word", long(12), long(12), api.OK},
		{"too long a word", long(13), long(13), api.ErrForm},
		{"far too long a word", long(100000), long(100000), api.ErrForm},
		{"longest word and another byte", long(12), long(12) + ".", api.ErrForm},
		{"too long a word behind a word", "a", "a " + long(13), api.ErrForm},
		{"too long a word ahead of a word", "a", long(13) + " a", api.ErrForm},
		{"large text", long(600), "a", api.OK},
		{"too large text", long(601), "a", api.ErrSize},
		{"far too large text", strings.Repeat("a ", 100000), "a", api.ErrSize},
		{"word before the text", long(601), "", api.ErrForm},
		{"too long a word before the text", long(601), long(601), api.ErrForm},
	}
	for _, c := range cases {
		got, code := words.Find(c.text, c.word)
		if code != c.want || code != api.OK && len(got) != 0 {
			t.Errorf("%s: Find(%d bytes, %d bytes) = %v, %v, want %v", c.name, len(c.text), len(c.word), got, code, c.want)
		}
	}
}

// P9.2: ordinary edits, and those that join, split, lengthen and shorten words.
func TestUpdate(t *testing.T) {
	cases := []struct {
		name string
		text string
		e    api.Edit
		want []api.Word
	}{
		{"example", "ab", put(1, " "), []api.Word{word("a", 0), word("b", 2)}},
		{"no effect", "a b a", cut(2, 0), []api.Word{word("a", 0, 4), word("b", 2)}},
		{"nothing in the empty text", "", cut(0, 0), nil},
		{"into the empty text", "", put(0, "a b"), []api.Word{word("a", 0), word("b", 2)}},
		{"all is removed", "a b", cut(0, 3), nil},
		{"all is replaced", "a b", swap(0, 3, "c a"), []api.Word{word("a", 2), word("c", 0)}},
		{"joined", "a b", cut(1, 1), []api.Word{word("ab", 0)}},
		{"joined by a letter", "a b", swap(1, 1, "x"), []api.Word{word("axb", 0)}},
		{"joined to a known word", "ab a b", cut(4, 1), []api.Word{word("ab", 0, 3)}},
		{"split into known words", "a ab b", put(3, " "), []api.Word{word("a", 0, 2), word("b", 4, 6)}},
		{"split by a replacement", "axb", swap(1, 1, "-"), []api.Word{word("a", 0), word("b", 2)}},
		{"ahead of a word", "bc", put(0, "a"), []api.Word{word("abc", 0)}},
		{"behind a word", "ab", put(2, "c"), []api.Word{word("abc", 0)}},
		{"between words", "a b", put(2, "c "), []api.Word{word("a", 0), word("b", 4), word("c", 2)}},
		{"moved on", "a b c", put(0, "..."), []api.Word{word("a", 3), word("b", 5), word("c", 7)}},
		{"moved back", "...a b", cut(0, 2), []api.Word{word("a", 1), word("b", 3)}},
		{"the only one goes", "a b a", cut(2, 1), []api.Word{word("a", 0, 3)}},
		{"one of two goes", "a b a", cut(0, 1), []api.Word{word("a", 3), word("b", 1)}},
		{"head of a word", "abc", cut(0, 1), []api.Word{word("bc", 0)}},
		{"tail of a word", "abc", cut(2, 1), []api.Word{word("ab", 0)}},
		{"middle of a word", "abc", cut(1, 1), []api.Word{word("ac", 0)}},
		{"of two words", "abc def", cut(2, 3), []api.Word{word("abef", 0)}},
		{"a word by itself", "a b", swap(2, 1, "b"), []api.Word{word("a", 0), word("b", 2)}},
		{"to the longest word", long(11), put(5, "x"), []api.Word{word(long(12), 0)}},
		{"to too long a word", long(12), put(0, "x"), nil},
		{"back to the longest word", long(13), cut(12, 1), []api.Word{word(long(12), 0)}},
		{"too long a word is split", long(13), put(12, "."), []api.Word{word("x", 13), word(long(12), 0)}},
		{"joined to too long a word", long(6) + " " + long(7), cut(6, 1), nil},
		{"far from the edit", long(13) + "y", cut(0, 2), []api.Word{word(long(11)+"y", 0)}},
		{"too long a word is put", "a b", put(2, long(13)+" "), []api.Word{word("a", 0), word("b", 16)}},
		{"to the limit", long(600), swap(0, 600, strings.Repeat("a ", 300)), []api.Word{word("a", everySecond(600)...)}},
		{"from the most words", strings.Repeat("a ", 300), cut(1, 599), []api.Word{word("a", 0)}},
	}
	for _, c := range cases {
		if got, code := words.Update(c.text, plainIndex(c.text), c.e); !same(got, c.want) || code != api.OK {
			t.Errorf("%s: Update(%q, its index, {%d %d %q}) = %v, %v, want %v, OK", c.name, c.text, c.e.At, c.e.Cut, c.e.Put, got, code, c.want)
		}
	}
}

// P9.2: what is not the index of the text, although it is close to it.
func TestUpdateForm(t *testing.T) {
	x13 := long(13)
	cases := []struct {
		name  string
		text  string
		words []api.Word
		want  api.Errno
	}{
		{"nil of no words", ". ", nil, api.OK},
		{"empty list of no words", "", []api.Word{}, api.OK},
		{"the index", "b a b", []api.Word{word("a", 2), word("b", 0, 4)}, api.OK},
		{"nil", "b a b", nil, api.ErrForm},
		{"empty list", "b a b", []api.Word{}, api.ErrForm},
		{"not in order", "b a b", []api.Word{word("b", 0, 4), word("a", 2)}, api.ErrForm},
		{"first word is missing", "b a b", []api.Word{word("b", 0, 4)}, api.ErrForm},
		{"last word is missing", "b a b", []api.Word{word("a", 2)}, api.ErrForm},
		{"a word twice", "b a b", []api.Word{word("a", 2), word("a", 2), word("b", 0, 4)}, api.ErrForm},
		{"a word in two parts", "b a b", []api.Word{word("a", 2), word("b", 0), word("b", 4)}, api.ErrForm},
		{"a word more", "b a b", []api.Word{word("a", 2), word("b", 0, 4), word("c", 5)}, api.ErrForm},
		{"a word more without offsets", "b a b", []api.Word{word("a", 2), word("b", 0, 4), word("c")}, api.ErrForm},
		{"an empty word", "b a b", []api.Word{{}, word("a", 2), word("b", 0, 4)}, api.ErrForm},
		{"an empty word of the empty text", "", []api.Word{{}}, api.ErrForm},
		{"a word of the empty text", "", []api.Word{word("a", 0)}, api.ErrForm},
		{"without offsets", "b a b", []api.Word{word("a", 2), word("b")}, api.ErrForm},
		{"with empty offsets", "b a b", []api.Word{word("a", 2), {Text: "b", At: []int{}}}, api.ErrForm},
		{"first offset is missing", "b a b", []api.Word{word("a", 2), word("b", 4)}, api.ErrForm},
		{"last offset is missing", "b a b", []api.Word{word("a", 2), word("b", 0)}, api.ErrForm},
		{"an offset more", "b a b", []api.Word{word("a", 2), word("b", 0, 4, 6)}, api.ErrForm},
		{"an offset twice", "b a b", []api.Word{word("a", 2, 2), word("b", 0, 4)}, api.ErrForm},
		{"offsets not in order", "b a b", []api.Word{word("a", 2), word("b", 4, 0)}, api.ErrForm},
		{"another offset", "b a b", []api.Word{word("a", 3), word("b", 0, 4)}, api.ErrForm},
		{"negative offset", "b a b", []api.Word{word("a", -2), word("b", 0, 4)}, api.ErrForm},
		{"largest offset", "b a b", []api.Word{word("a", math.MaxInt), word("b", 0, 4)}, api.ErrForm},
		{"offsets of each other", "b a b", []api.Word{word("a", 0, 4), word("b", 2)}, api.ErrForm},
		{"another word", "b a b", []api.Word{word("A", 2), word("b", 0, 4)}, api.ErrForm},
		{"a longer word", "b a b", []api.Word{word("a ", 2), word("b", 0, 4)}, api.ErrForm},
		{"a head", "ab", []api.Word{word("a", 0)}, api.ErrForm},
		{"a tail", "ab", []api.Word{word("b", 1)}, api.ErrForm},
		{"too long a word", x13, []api.Word{word(x13, 0)}, api.ErrForm},
		{"a part of too long a word", x13, []api.Word{word(long(12), 0)}, api.ErrForm},
		{"other bytes", "a .", []api.Word{word(".", 2), word("a", 0)}, api.ErrForm},
	}
	for _, c := range cases {
		var unchanged []api.Word
		if c.want == api.OK {
			unchanged = c.words
		}
		got, code := words.Update(c.text, c.words, cut(0, 0))
		if code != c.want || !same(got, unchanged) {
			t.Errorf("%s: Update(%q, %v, no effect) = %v, %v, want %v", c.name, c.text, c.words, got, code, c.want)
		}
	}
}

// P9.2: the index of one short text is that of another one only if they have the same words at the same offsets.
func TestUpdateOtherIndex(t *testing.T) {
	texts := shortTexts(3, "ab .")
	for _, text := range texts {
		for _, other := range texts {
			index, want := plainIndex(other), api.ErrForm
			if same(plainIndex(text), index) {
				want = api.OK
			}
			if _, code := words.Update(text, index, cut(0, 0)); code != want {
				t.Fatalf("Update(%q, the index of %q, no effect): %v, want %v", text, other, code, want)
			}
		}
	}
}

// P9.2: its errors in order, beside which there are no words.
func TestUpdateErrors(t *testing.T) {
	most := strings.Repeat("a ", 300)
	cases := []struct {
		name  string
		text  string
		words []api.Word
		e     api.Edit
		want  api.Errno
	}{
		{"too large text", long(601), nil, cut(0, 1), api.ErrSize},
		{"too large text with words", most + "a", plainIndex(most + "a"), cut(0, 0), api.ErrSize},
		{"far too large text", long(100000), nil, cut(0, 100000), api.ErrSize},
		{"text before words", most + "a", nil, cut(0, 0), api.ErrSize},
		{"text before range", long(601), nil, cut(-1, 0), api.ErrSize},
		{"words before range", "ab", nil, cut(3, 0), api.ErrForm},
		{"words before a negative offset", "ab", []api.Word{word("ab", 1)}, cut(-1, 0), api.ErrForm},
		{"words before the result", most, nil, put(0, "x"), api.ErrForm},
		{"words that only the result has", "ab", []api.Word{word("a", 0), word("b", 2)}, put(1, " "), api.ErrForm},
		{"negative offset", "ab", plainIndex("ab"), cut(-1, 1), api.ErrRange},
		{"negative count", "ab", plainIndex("ab"), cut(1, -1), api.ErrRange},
		{"past the end", "ab", plainIndex("ab"), cut(1, 2), api.ErrRange},
		{"behind the end", "ab", plainIndex("ab"), put(3, "x"), api.ErrRange},
		{"behind the end of the empty text", "", nil, put(1, "x"), api.ErrRange},
		{"overflow", "ab", plainIndex("ab"), cut(1, math.MaxInt), api.ErrRange},
		{"overflow of the offset", "ab", plainIndex("ab"), cut(math.MaxInt, 1), api.ErrRange},
		{"least numbers", "ab", plainIndex("ab"), cut(math.MinInt, math.MinInt), api.ErrRange},
		{"range before the result", most, plainIndex(most), put(601, "x"), api.ErrRange},
		{"result", most, plainIndex(most), put(0, "x"), api.ErrSize},
		{"result of a replacement", most, plainIndex(most), swap(0, 600, long(601)), api.ErrSize},
		{"result of the empty text", "", nil, put(0, long(601)), api.ErrSize},
		{"largest result", long(599), nil, put(0, "x"), api.OK},
	}
	for _, c := range cases {
		got, code := words.Update(c.text, c.words, c.e)
		if code != c.want || len(got) != 0 {
			t.Errorf("%s: Update(%d bytes, %v, {%d %d, %d bytes}) = %v, %v, want no words, %v", c.name, len(c.text), c.words, c.e.At, c.e.Cut, len(c.e.Put), got, code, c.want)
		}
	}
}

// sameAfter compares the index of text, updated for e, with that of the text after it, and returns both.
func sameAfter(t *testing.T, text string, index []api.Word, e api.Edit) (string, []api.Word) {
	t.Helper()
	after := text[:e.At] + e.Put + text[e.At+e.Cut:]
	got, code := words.Update(text, index, e)
	if want := plainIndex(after); !same(got, want) || code != api.OK {
		t.Fatalf("Update(%q, %v, {%d %d %q}) = %v, %v, want %v, OK", text, index, e.At, e.Cut, e.Put, got, code, want)
	}
	return after, got
}

// P9.2: every edit of every short text.
func TestUpdateOfShortTexts(t *testing.T) {
	puts := shortTexts(2, "b ")
	for _, text := range shortTexts(5, "ab ") {
		index := plainIndex(text)
		for at := range len(text) + 1 {
			for count := range len(text) - at + 1 {
				for _, inserted := range puts {
					sameAfter(t, text, index, swap(at, count, inserted))
				}
			}
		}
	}
}

// P9.2: every edit of texts with words of about the largest length.
func TestUpdateOfLongWords(t *testing.T) {
	puts := []string{"", "x", ".", "x.", ".x", "xx", long(12), long(13)}
	for _, text := range []string{long(11), long(12), long(13), long(25), long(12) + " " + long(12), long(6) + " " + long(7)} {
		index := plainIndex(text)
		for at := range len(text) + 1 {
			for count := range len(text) - at + 1 {
				for _, inserted := range puts {
					sameAfter(t, text, index, swap(at, count, inserted))
				}
			}
		}
	}
}

// randomText returns a text of at most size bytes: words of few letters, of all lengths up to those that are too long.
func randomText(random *rand.Rand, size int) string {
	text := make([]byte, random.Intn(size+1))
	between := 1 + random.Intn(12)
	for i := range text {
		text[i] = "aB0"[random.Intn(3)]
		if random.Intn(between) == 0 {
			text[i] = " \n\xff"[random.Intn(3)]
		}
	}
	return string(text)
}

// P9.1 and P9.2: long series of edits, each on the index that the previous one led to.
func TestRandomSeries(t *testing.T) {
	random := rand.New(rand.NewSource(9))
	full, passedOver := 0, 0
	for range 150 {
		text := randomText(random, api.MaxText)
		index, code := words.All(text)
		if want := plainIndex(text); !same(index, want) || code != api.OK {
			t.Fatalf("All(%q) = %v, %v, want %v, OK", text, index, code, want)
		}
		for range 60 {
			at := random.Intn(len(text) + 1)
			e := cut(at, random.Intn(min(len(text)-at, 30)+1))
			e.Put = randomText(random, min(api.MaxText-len(text)+e.Cut, 40))
			text, index = sameAfter(t, text, index, e)
			for _, w := range index {
				if got, code := words.Find(text, w.Text); !slices.Equal(got, w.At) || code != api.OK {
					t.Fatalf("Find(%q, %q) = %v, %v, want %v, OK", text, w.Text, got, code, w.At)
				}
			}
			if len(text) == api.MaxText {
				full++
			}
			if tooLong.MatchString(text) {
				passedOver++
			}
		}
	}
	if full == 0 || passedOver == 0 {
		t.Errorf("%d texts were full, %d had words that are too long", full, passedOver)
	}
}

// spoil overwrites an index with all its spare capacity.
func spoil(index []api.Word) {
	for _, w := range index {
		at := w.At[:cap(w.At)]
		for i := range at {
			at[i] = -1
		}
	}
	index = index[:cap(index)]
	for i := range index {
		index[i] = word("spoilt", -1)
	}
}

// P9.2: the index that is passed stays as it is, beyond its end too, and results are new memory in each call.
func TestUpdateIsNotShared(t *testing.T) {
	const text = "ab a ab b ab"
	edits := []api.Edit{cut(0, 0), put(1, " "), put(12, " c"), cut(0, 12), cut(3, 4), swap(3, 1, "x y")}
	for _, e := range edits {
		offsets := []int{0, 5, 10, 77, 78}
		all := []api.Word{word("a", 3), {Text: "ab", At: offsets[:3]}, word("b", 8), word("spare", 1), word("spare", 2)}
		before, spare := deepClone(all), slices.Clone(offsets)
		got, code := words.Update(text, all[:3], e)
		if code != api.OK {
			t.Fatalf("%v: %v, want OK", e, code)
		}
		want := deepClone(got)
		other, _ := words.Update(text, all[:3], e)
		spoil(other)
		if !same(got, want) {
			t.Errorf("%v: the first result became %v, want %v", e, got, want)
		}
		spoil(got)
		if !same(all, before) || !slices.Equal(offsets, spare) {
			t.Errorf("%v: the index was changed to %v, its offsets to %v", e, all, offsets)
		}
	}
}

// P9.1: results are new memory in each call, and so is every list of offsets within one.
func TestResultsAreNotShared(t *testing.T) {
	const text = "a b a b a c c a b c a b"
	want := plainIndex(text)
	first, _ := words.All(text)
	second, _ := words.All(text)
	spoil(second)
	if !same(first, want) {
		t.Errorf("the first result of All became %v, want %v", first, want)
	}
	for i := range want {
		fresh, _ := words.All(text)
		spoil(fresh[i : i+1 : i+1])
		for k, w := range fresh {
			if k != i && !sameWord(w, want[k]) {
				t.Errorf("with the word %d, the word %d became %v, want %v", i, k, w, want[k])
			}
		}
	}
	found, _ := words.Find(text, "a")
	again, _ := words.Find(text, "a")
	clear(again[:cap(again)])
	if !slices.Equal(found, want[0].At) {
		t.Errorf("the first result of Find became %v, want %v", found, want[0].At)
	}
}
