package samples

import (
	"math"
	"slices"

	"changeforge/api"
)

// Patch returns a patch.
func Patch(hunks ...api.Hunk) api.Patch { return api.Patch{Hunks: slices.Clone(hunks)} }

// Hunk returns a hunk whose old and new lines are each written in one line.
func Hunk(at int, deleted, inserted string) api.Hunk {
	return api.Hunk{At: at, Old: Words(deleted), New: Words(inserted)}
}

// EqualPatches compares two patches.
func EqualPatches(p, q api.Patch) bool {
	return slices.EqualFunc(p.Hunks, q.Hunks, func(g, h api.Hunk) bool {
		return g.At == h.At && slices.Equal(g.Old, h.Old) && slices.Equal(g.New, h.New)
	})
}

// Insertions returns a patch with n hunks, as close to each other as possible.
func Insertions(n int) api.Patch {
	var p api.Patch
	for at := range n {
		p.Hunks = append(p.Hunks, Hunk(at, "", "a"))
	}
	return p
}

// Patches returns all patches of at most n hunks that begin from the one place to the other and have the given texts.
func Patches(n, from, to int, olds, news [][]string) []api.Patch {
	all := []api.Patch{{}}
	if n == 0 {
		return all
	}
	for at := from; at <= to; at++ {
		for _, old := range olds {
			// The next hunk has to leave a line between.
			rests := Patches(n-1, at+len(old)+1, to, olds, news)
			for _, inserted := range news {
				if len(old)+len(inserted) == 0 {
					continue
				}
				first := api.Hunk{At: at, Old: old, New: inserted}
				for _, rest := range rests {
					all = append(all, Patch(append([]api.Hunk{first}, rest.Hunks...)...))
				}
			}
		}
	}
	return all
}

// SmallPatches returns patches with one hunk of up to two lines, and with several of up to one line.
func SmallPatches(hunks, to int) []api.Patch {
	large := Patches(1, 0, 2, Texts(2, "a", "b"), Texts(2, "a", "b"))
	return append(large, Patches(hunks, 0, to, Texts(1, "a"), Texts(1, "a", "b"))...)
}

// An InvalidPatch has an error at its last hunk, or as a whole.
type InvalidPatch struct {
	Patch api.Patch
	Fault api.Fault
}

// InvalidPatches returns patches with their errors.
func InvalidPatches() []InvalidPatch {
	broken := func(h api.Hunk, code int) InvalidPatch {
		return InvalidPatch{Patch(Hunk(0, "", "a"), h), Fault(code, 1)}
	}
	return []InvalidPatch{
		{Insertions(api.MaxHunks + 1), Fault(api.ErrTooMany, -1)},
		{Patch(Hunk(-1, "a", "")), Fault(api.ErrRange, 0)},
		{Patch(Hunk(math.MinInt, "", "a")), Fault(api.ErrRange, 0)},
		broken(Hunk(api.MaxLines+1, "", "a"), api.ErrRange),
		broken(Hunk(math.MaxInt, "a", "b"), api.ErrRange),
		broken(api.Hunk{At: 5, Old: Repeat("x", api.MaxLines+1)}, api.ErrTooMany),
		broken(api.Hunk{At: 5, Old: []string{TooLong}}, api.ErrTooMany),
		broken(api.Hunk{At: 5, New: []string{"a", NewLine}}, api.ErrMalformed),
		broken(api.Hunk{At: 5}, api.ErrMalformed),
		broken(Hunk(0, "a", "b"), api.ErrMalformed),
		broken(Hunk(api.MaxLines, "a", ""), api.ErrRange),
	}
}

// RandomPatch returns a patch that can be applied to the text. A call of random returns a number in [0, n).
func RandomPatch(random func(n int) int, text []string, size, kinds int) api.Patch {
	var p api.Patch
	at := random(size)
	for at <= len(text) {
		end := min(at+random(size), len(text))
		inserted := RandomText(random, random(size), kinds)
		if end-at+len(inserted) > 0 {
			p.Hunks = append(p.Hunks, api.Hunk{At: at, Old: text[at:end], New: inserted})
		}
		at = end + 1 + random(size)
	}
	return p
}

// SparePatch returns a copy of a patch all of whose lists have more capacity than they need.
func SparePatch(p api.Patch) api.Patch {
	hunks := make([]api.Hunk, 0, len(p.Hunks)+2)
	for _, h := range p.Hunks {
		hunks = append(hunks, api.Hunk{At: h.At, Old: Spare(h.Old), New: Spare(h.New)})
	}
	return api.Patch{Hunks: hunks}
}

// WithCapacity returns a copy of a patch that has what lies in the capacity of its lists, too.
func WithCapacity(p api.Patch) api.Patch {
	var whole api.Patch
	for _, h := range p.Hunks[:cap(p.Hunks)] {
		h.Old, h.New = slices.Clone(h.Old[:cap(h.Old)]), slices.Clone(h.New[:cap(h.New)])
		whole.Hunks = append(whole.Hunks, h)
	}
	return whole
}
