package merge

import (
	"math"
	"slices"
)

// region is a range of lines of base that holds hunks of both sides, connected by touching.
type region struct {
	begin, end int
	hunks      [2][]hunk
}

// firstRegion takes the hunks of the first region off the sides, which have at least one hunk.
func firstRegion(sides *[2][]hunk) region {
	begin := math.MaxInt
	for _, side := range sides {
		if len(side) > 0 {
			begin = min(begin, side[0].begin)
		}
	}
	r := region{begin: begin, end: begin}
	for r.grow(sides) {
	}
	return r
}

// grow takes a hunk that touches the region off one of the sides, and reports whether there is one.
func (r *region) grow(sides *[2][]hunk) bool {
	for i, side := range sides {
		// Hunks of one side never touch each other: what touches the region touches a hunk of the other side.
		if len(side) > 0 && side[0].begin <= r.end {
			r.hunks[i] = append(r.hunks[i], side[0])
			r.end = max(r.end, side[0].end)
			sides[i] = side[1:]
			return true
		}
	}
	return false
}

// merge returns the hunk that replaces the region, and reports whether there is a conflict.
func (r region) merge(base []string) (h hunk, clash bool) {
	var versions [2][]string
	for i, side := range r.hunks {
		versions[i] = replace(base, r.begin, r.end, side)
	}
	h = hunk{begin: r.begin, end: r.end}
	switch {
	case len(r.hunks[0]) == 0:
		h.lines = versions[1]
	case len(r.hunks[1]) == 0 || slices.Equal(versions[0], versions[1]):
		h.lines = versions[0]
	default:
		h.lines = conflict(versions)
		clash = true
	}
	return h, clash
}

// conflict returns both versions between the lines that mark a conflict.
func conflict(versions [2][]string) []string {
	lines := []string{"<<<<<<<"}
	lines = append(lines, versions[0]...)
	lines = append(lines, "=======")
	lines = append(lines, versions[1]...)
	return append(lines, ">>>>>>>")
}
