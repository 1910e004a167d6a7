package unified

import (
	"slices"

	"changeforge/api"
	"changeforge/lines"
	"changeforge/textpatch"
)

// Fuzzy applies a patch whose hunks may have moved.
func Fuzzy(text []string, p api.Patch, reach int) ([]string, []int, api.Fault) {
	if fault := textpatch.Validate(p); fault != (api.Fault{}) {
		return nil, nil, fault
	}
	if fault := lines.Validate(text); fault != (api.Fault{}) {
		return nil, nil, api.Fault{Code: fault.Code, Index: -2}
	}
	if reach < 0 || reach > api.MaxLines {
		return nil, nil, api.Fault{Code: api.ErrRange, Index: -3}
	}
	var moved api.Patch
	var offsets []int
	low := 0
	for i, hunk := range p.Hunks {
		offset, found := offsetOf(hunk, text, low, reach)
		if !found {
			return nil, nil, api.Fault{Code: api.ErrConflict, Index: i}
		}
		hunk.At += offset
		moved.Hunks = append(moved.Hunks, hunk)
		offsets = append(offsets, offset)
		low = end(hunk) + 1
	}
	// Each moved hunk occurs in the text, so the result can only be too large.
	result, fault := textpatch.Apply(moved, text)
	if fault != (api.Fault{}) {
		return nil, nil, fault
	}
	return result, offsets, api.Fault{}
}

// offsetOf returns the offset to the nearest place, not before low, at which a hunk can be applied.
func offsetOf(hunk api.Hunk, text []string, low, reach int) (int, bool) {
	for distance := range reach + 1 {
		for _, offset := range [2]int{-distance, distance} {
			at := hunk.At + offset
			if at >= low && occurs(hunk.Old, text, at) {
				return offset, true
			}
		}
	}
	return 0, false
}

// occurs tells whether a text has the lines at an index.
func occurs(lines, text []string, at int) bool {
	return at+len(lines) <= len(text) && slices.Equal(text[at:at+len(lines)], lines)
}
