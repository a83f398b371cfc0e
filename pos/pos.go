// Package pos measures texts in bytes, lines and columns: see doc/01-pos.md.
package pos

import (
	"strings"

	"fustian/api"
)

const (
	lineFeed = "\n"
	maxField = 1 << 40
)

// Of returns the extent of text.
func Of(text string) api.Pos {
	// Without a line feed, LastIndex is -1, so that every byte counts as behind it.
	last := strings.LastIndex(text, lineFeed)
	return api.Pos{
		Bytes: len(text),
		Lines: strings.Count(text, lineFeed),
		Col:   len(text) - (last + 1),
	}
}

// May reports whether p is the extent of some text within the limits.
func May(p api.Pos) bool {
	// The fields come first: within their limits the sum below cannot overflow.
	if !fits(p.Bytes) || !fits(p.Lines) || !fits(p.Col) {
		return false
	}
	if p.Lines == 0 {
		return p.Col == p.Bytes
	}
	return p.Lines+p.Col <= p.Bytes
}

func fits(field int) bool {
	return 0 <= field && field <= maxField
}

// Join returns the extent of a text with the extent a followed by one with the extent b.
func Join(a, b api.Pos) (api.Pos, api.Errno) {
	if !May(a) || !May(b) {
		return api.Pos{}, api.ErrForm
	}
	joined := api.Pos{Bytes: a.Bytes + b.Bytes, Lines: a.Lines + b.Lines, Col: b.Col}
	if b.Lines == 0 {
		// The last line of a goes on in b.
		joined.Col += a.Col
	}
	// Two valid extents can still be too large together.
	if !May(joined) {
		return api.Pos{}, api.ErrForm
	}
	return joined, api.OK
}

// Find returns the offset of column col in line number line of text.
func Find(text string, line, col int) (int, api.Errno) {
	if line < 0 || col < 0 {
		return 0, api.ErrRange
	}
	start, ok := lineStart(text, line)
	if !ok {
		return 0, api.ErrRange
	}
	if col > lineLength(text[start:]) {
		return 0, api.ErrNone
	}
	return start + col, api.OK
}

// lineStart returns the offset of the first byte of a line, and whether text has that line.
func lineStart(text string, line int) (int, bool) {
	start := 0
	for range line {
		feed := strings.Index(text[start:], lineFeed)
		if feed < 0 {
			return 0, false
		}
		start += feed + 1
	}
	return start, true
}

// lineLength returns the length of the first line of text, without its line feed.
func lineLength(text string) int {
	feed := strings.Index(text, lineFeed)
	if feed < 0 {
		return len(text)
	}
	return feed
}

// At returns the extent of the first at bytes of text.
func At(text string, at int) (api.Pos, api.Errno) {
	if at < 0 || at > len(text) {
		return api.Pos{}, api.ErrRange
	}
	return Of(text[:at]), api.OK
}
