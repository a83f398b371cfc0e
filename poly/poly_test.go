package poly_test

import (
	"math"
	"math/big"
	"slices"
	"strings"
	"testing"

	"fustian/api"
	"fustian/poly"
)

// shortTexts returns every text of at most size bytes over a letter, a line feed, the first byte and the last one.
func shortTexts(size int) []string {
	all := []string{""}
	last := all
	for range size {
		var longer []string
		for _, text := range last {
			longer = append(longer, text+"a", text+"\n", text+"\x00", text+"\xff")
		}
		all = append(all, longer...)
		last = longer
	}
	return all
}

// sum computes a hash as sums of powers of any size, which it divides only at the end.
func sum(text string) api.Hash {
	prime, base := big.NewInt(2147483647), big.NewInt(257)
	value, power := new(big.Int), big.NewInt(1)
	for i := len(text) - 1; i >= 0; i-- {
		digit := big.NewInt(int64(text[i]) + 1)
		value.Add(value, digit.Mul(digit, power))
		power.Mul(power, base)
	}
	return api.Hash{
		Value: int(value.Mod(value, prime).Int64()),
		Shift: int(power.Mod(power, prime).Int64()),
	}
}

// P2.1, Of.
func TestOf(t *testing.T) {
	cases := []struct {
		text string
		want api.Hash
	}{
		{"", api.Hash{Value: 0, Shift: 1}},
		{"a", api.Hash{Value: 98, Shift: 257}},
		{"ab", api.Hash{Value: 25285, Shift: 66049}},
		{"ba", api.Hash{Value: 99*257 + 98, Shift: 66049}},
		{"\x00", api.Hash{Value: 1, Shift: 257}},
		{"\x00\x00", api.Hash{Value: 258, Shift: 66049}},
		{"\n", api.Hash{Value: 11, Shift: 257}},
		{"\xff", api.Hash{Value: 256, Shift: 257}},
		// ä has the two bytes 195 and 164.
		{"ä", api.Hash{Value: 196*257 + 165, Shift: 66049}},
		{"\x00\x00\x00\x00", api.Hash{Value: 17040900, Shift: 257*257*257*257 - 2*2147483647}},
	}
	for _, c := range cases {
		if got := poly.Of(c.text); got != c.want {
			t.Errorf("Of(%q) = %v, want %v", c.text, got, c.want)
		}
	}
}

// P2.1, Of: all short texts and some long ones, beyond MaxText too; each of them has a valid hash.
func TestOfSums(t *testing.T) {
	texts := shortTexts(6)
	for _, unit := range []string{"\x00", "\xff", "a\n", "one two\xc3"} {
		for _, count := range []int{5, 75, 600, 601, 2000} {
			texts = append(texts, strings.Repeat(unit, count))
		}
	}
	for _, text := range texts {
		got := poly.Of(text)
		if want := sum(text); got != want {
			t.Errorf("Of(%.20q), %d bytes, = %v, want %v", text, len(text), got, want)
		}
		if !poly.May(got) {
			t.Errorf("May(Of(%.20q)), %d bytes, = false", text, len(text))
		}
	}
}

// hashCases has hashes at the limits of validity and far beyond them.
var hashCases = []struct {
	hash api.Hash
	want bool
}{
	{api.Hash{}, false},
	{api.Hash{Value: 0, Shift: 1}, true},
	{api.Hash{Value: 5, Shift: 0}, false},
	{api.Hash{Value: 2147483646, Shift: 2147483646}, true},
	{api.Hash{Value: 2147483647, Shift: 1}, false},
	{api.Hash{Value: 0, Shift: 2147483647}, false},
	{api.Hash{Value: 2147483648, Shift: 2147483648}, false},
	{api.Hash{Value: -1, Shift: 1}, false},
	{api.Hash{Value: 0, Shift: -1}, false},
	{api.Hash{Value: math.MaxInt, Shift: 1}, false},
	{api.Hash{Value: 0, Shift: math.MaxInt}, false},
	{api.Hash{Value: math.MinInt, Shift: 1}, false},
	{api.Hash{Value: 0, Shift: math.MinInt}, false},
	{api.Hash{Value: 1 << 32, Shift: 1}, false},
	{api.Hash{Value: 1, Shift: 1 << 32}, false},
	// No text has this hash, since no power of Base is 3 modulo Prime; it is valid all the same.
	{api.Hash{Value: 7, Shift: 3}, true},
}

// P2.1, May.
func TestMay(t *testing.T) {
	for _, c := range hashCases {
		if got := poly.May(c.hash); got != c.want {
			t.Errorf("May(%v) = %v, want %v", c.hash, got, c.want)
		}
	}
}

// P2.1, Join: the hash of a text from the hashes of its two parts, wherever it is divided.
func TestJoinParts(t *testing.T) {
	texts := shortTexts(5)
	texts = append(texts, strings.Repeat("\xff", 40), strings.Repeat("one\ntwo ", 10))
	for _, text := range texts {
		for at := 0; at <= len(text); at++ {
			got, code := poly.Join(poly.Of(text[:at]), poly.Of(text[at:]))
			if want := poly.Of(text); got != want || code != api.OK {
				t.Errorf("Join of %q and %q = %v, %v, want %v", text[:at], text[at:], got, code, want)
			}
		}
	}
}

// P2.1, Join: the formula, for all pairs of valid hashes, the largest ones among them; ErrForm for all other pairs.
func TestJoinHashes(t *testing.T) {
	prime := big.NewInt(2147483647)
	for _, a := range hashCases {
		for _, b := range hashCases {
			got, code := poly.Join(a.hash, b.hash)
			if !a.want || !b.want {
				if got != (api.Hash{}) || code != api.ErrForm {
					t.Errorf("Join(%v, %v) = %v, %v, want ErrForm", a.hash, b.hash, got, code)
				}
				continue
			}
			by := big.NewInt(int64(b.hash.Shift))
			value := new(big.Int).Mul(big.NewInt(int64(a.hash.Value)), by)
			value.Add(value, big.NewInt(int64(b.hash.Value)))
			shift := new(big.Int).Mul(big.NewInt(int64(a.hash.Shift)), by)
			want := api.Hash{
				Value: int(value.Mod(value, prime).Int64()),
				Shift: int(shift.Mod(shift, prime).Int64()),
			}
			if got != want || code != api.OK {
				t.Errorf("Join(%v, %v) = %v, %v, want %v", a.hash, b.hash, got, code, want)
			}
			if !poly.May(got) {
				t.Errorf("Join(%v, %v) = %v, which is not valid", a.hash, b.hash, got)
			}
		}
	}
}

// P2.2, Lines.
func TestLines(t *testing.T) {
	cases := []struct {
		text string
		want []int
	}{
		{"", []int{0}},
		{"\n", []int{0, 0}},
		{"\n\n", []int{0, 0, 0}},
		{"a", []int{98}},
		{"a\n", []int{98, 0}},
		{"\na", []int{0, 98}},
		{"a\n\nab", []int{98, 0, 25285}},
		{"ab\na\nab\n", []int{25285, 98, 25285, 0}},
		// A carriage return belongs to its line, and other separators of lines do not end it.
		{"\r\n\r", []int{14, 14}},
		{"\v\n\f", []int{12, 13}},
		{"\x00\n\xff", []int{1, 256}},
	}
	for _, c := range cases {
		got, code := poly.Lines(c.text)
		if code != api.OK || !slices.Equal(got, c.want) {
			t.Errorf("Lines(%q) = %v, %v, want %v", c.text, got, code, c.want)
		}
	}
}

// P2.2, Lines: as the lines are when the text is split, for all short texts.
func TestLinesShortTexts(t *testing.T) {
	for _, text := range shortTexts(6) {
		var want []int
		for _, line := range strings.Split(text, "\n") {
			want = append(want, sum(line).Value)
		}
		got, code := poly.Lines(text)
		if code != api.OK || !slices.Equal(got, want) {
			t.Errorf("Lines(%q) = %v, %v, want %v", text, got, code, want)
		}
	}
}

// P2.2, Lines: at most MaxText bytes.
func TestLinesLimit(t *testing.T) {
	for _, unit := range []string{"a", "\n", "\xff"} {
		text := strings.Repeat(unit, api.MaxText)
		want := []int{sum(text).Value}
		if unit == "\n" {
			want = make([]int, api.MaxText+1)
		}
		got, code := poly.Lines(text)
		if code != api.OK || !slices.Equal(got, want) {
			t.Errorf("Lines of %d times %q = %v, %v, want %v", api.MaxText, unit, got, code, want)
		}
		for _, more := range []int{1, 5000} {
			got, code := poly.Lines(text + strings.Repeat(unit, more))
			if code != api.ErrSize || len(got) != 0 {
				t.Errorf("Lines of %d times %q = %v, %v, want ErrSize", api.MaxText+more, unit, got, code)
			}
		}
	}
}

// General rules: returned lists share no memory, spare capacity included.
func TestLinesNewList(t *testing.T) {
	text := strings.Repeat("\n", 10) + "a"
	first, _ := poly.Lines(text)
	for i := range first[:cap(first)] {
		first[:cap(first)][i] = -1
	}
	second, _ := poly.Lines(text)
	want := append(make([]int, 10), 98)
	if !slices.Equal(second, want) {
		t.Errorf("Lines(%q) = %v after a change of an earlier result, want %v", text, second, want)
	}
}
