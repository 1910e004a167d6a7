package unified

import (
	"strings"

	"changeforge/api"
	"changeforge/textpatch"
)

// Parse parses a unified diff.
func Parse(text string) (api.Patch, api.Fault) {
	if len(text) > api.MaxBuffer {
		return api.Patch{}, api.Fault{Code: api.ErrTooMany, Index: -1}
	}
	var r reader
	number := 0
	for line := range strings.Lines(text) {
		line, terminated := strings.CutSuffix(line, "\n")
		if !r.read(line) || !terminated {
			return api.Patch{}, api.Fault{Code: api.ErrSyntax, Index: number}
		}
		number++
	}
	if r.at != r.end {
		return api.Patch{}, api.Fault{Code: api.ErrSyntax, Index: number}
	}
	patch := api.Patch{Hunks: r.hunks}
	if fault := textpatch.Validate(patch); fault != (api.Fault{}) {
		return api.Patch{}, api.Fault{Code: fault.Code, Index: -2}
	}
	return patch, api.Fault{}
}

// A reader reads a unified diff line by line.
type reader struct {
	hunks   []api.Hunk
	open    bool  // whether the next changed line belongs to the last hunk
	at, end place // the place of the next line, and where its group ends
}

// read reads the next line and tells whether it is valid.
func (r *reader) read(line string) bool {
	if r.at == r.end {
		return r.readHeader(line)
	}
	return r.readLine(line)
}

func (r *reader) readHeader(line string) bool {
	from, to, ok := parseHeader(line)
	// The lines that no group has are the same in both texts.
	between := from[inOld] - r.at[inOld]
	if !ok || between < 0 || from[inNew]-r.at[inNew] != between {
		return false
	}
	if between > 0 {
		r.open = false
	}
	r.at, r.end = from, to
	return true
}

// readLine reads a line of a group.
func (r *reader) readLine(line string) bool {
	if line == "" {
		return false
	}
	at, valid := r.at, true
	switch mark, content := line[0], line[1:]; mark {
	case kept:
		at[inOld]++
		at[inNew]++
		r.open = false
	case deleted:
		at[inOld]++
		hunk := r.hunk()
		hunk.Old = append(hunk.Old, content)
		valid = len(hunk.New) == 0
	case inserted:
		at[inNew]++
		hunk := r.hunk()
		hunk.New = append(hunk.New, content)
	default:
		valid = false
	}
	r.at = at
	return valid && at[inOld] <= r.end[inOld] && at[inNew] <= r.end[inNew]
}

// hunk returns the hunk to which a changed line at this place belongs.
func (r *reader) hunk() *api.Hunk {
	if !r.open {
		r.hunks = append(r.hunks, api.Hunk{At: r.at[inOld]})
		r.open = true
	}
	return &r.hunks[len(r.hunks)-1]
}
