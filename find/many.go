package find

import (
	"slices"

	"fustian/api"
)

// Many returns the occurrences of all the strings, by the offsets at which they end, the longer ones first.
func Many(text string, finds []string) ([]api.Hit, api.Errno) {
	if len(text) > api.MaxText || len(finds) > api.MaxFinds {
		return nil, api.ErrSize
	}
	if code := check(finds); code != api.OK {
		return nil, code
	}
	return hits(text, finds), api.OK
}

func check(finds []string) api.Errno {
	for i, find := range finds {
		if len(find) > api.MaxFind {
			return api.ErrSize
		}
		if find == "" || slices.Contains(finds[:i], find) {
			return api.ErrForm
		}
	}
	return api.OK
}

func hits(text string, finds []string) []api.Hit {
	var found []api.Hit
	m := build(finds)
	at := root
	for i := range len(text) {
		at = m.step(at, text[i])
		// The suffixes of a prefix become shorter, so that the longer strings come first.
		for s := at; s != root; s = m[s].suffix {
			if find := m[s].find; find != none {
				found = append(found, api.Hit{At: i + 1 - len(finds[find]), Find: find})
			}
		}
	}
	return found
}

// machine has a state for each prefix of the strings, and is in that of the longest one with which the text read so far ends.
type machine []state

type state struct {
	next   map[byte]int // the states of the prefixes that are longer by one byte
	suffix int          // the state of the longest shorter suffix that is a prefix too
	find   int          // the index of the string that is this prefix, or none
}

const (
	root = 0
	none = -1
)

func newState(suffix int) state {
	return state{next: map[byte]int{}, suffix: suffix, find: none}
}

func build(finds []string) machine {
	m := machine{newState(root)}
	ends := make([]int, len(finds))
	// All strings grow together, so that the suffixes of a prefix, which are shorter, have their states before it.
	for size := range api.MaxFind {
		for i, find := range finds {
			if size < len(find) {
				m, ends[i] = m.grow(ends[i], find[size])
			}
		}
	}
	for i, end := range ends {
		m[end].find = i
	}
	return m
}

// grow returns the machine with a state for the prefix of at and c, and this state.
func (m machine) grow(at int, c byte) (machine, int) {
	if next, ok := m[at].next[c]; ok {
		return m, next
	}
	suffix := root
	if at != root {
		suffix = m.step(m[at].suffix, c)
	}
	m[at].next[c] = len(m)
	return append(m, newState(suffix)), len(m)
}

// step returns the state of the longest prefix that ends with c and, before it, with a suffix of the prefix of at.
func (m machine) step(at int, c byte) int {
	for {
		if next, ok := m[at].next[c]; ok {
			return next
		}
		if at == root {
			return root
		}
		at = m[at].suffix
	}
}
