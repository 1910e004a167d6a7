package textpatch

import (
	"math"
	"math/rand"
	"slices"
	"testing"

	"changeforge/api"
	"changeforge/samples"
)

const longest, tooLong, newLine = samples.Longest, samples.TooLong, samples.NewLine

var (
	fault, repeat, words = samples.Fault, samples.Repeat, samples.Words
	patch, hunk          = samples.Patch, samples.Hunk
	insertions           = samples.Insertions
)

func checkValidate(t *testing.T, p api.Patch, want api.Fault) {
	t.Helper()
	if got := Validate(p); got != want {
		t.Errorf("Validate(%.300v): got %v, want %v", p, got, want)
	}
}

func checkApply(t *testing.T, p api.Patch, text, want []string, wantFault api.Fault) {
	t.Helper()
	got, gotFault := Apply(p, text)
	if !slices.Equal(got, want) || gotFault != wantFault {
		t.Errorf("Apply(%.300v, %.60q): got %.60q %v, want %.60q %v", p, text, got, gotFault, want, wantFault)
	}
}

func checkInvert(t *testing.T, p, want api.Patch, wantFault api.Fault) {
	t.Helper()
	got, gotFault := Invert(p)
	if !samples.EqualPatches(got, want) || gotFault != wantFault {
		t.Errorf("Invert(%.300v): got %.300v %v, want %.300v %v", p, got, gotFault, want, wantFault)
	}
}

func checkCompose(t *testing.T, p, q, want api.Patch, wantFault api.Fault) {
	t.Helper()
	got, gotFault := Compose(p, q)
	if !samples.EqualPatches(got, want) || gotFault != wantFault {
		t.Errorf("Compose(%.300v, %.300v): got %.300v %v, want %.300v %v", p, q, got, gotFault, want, wantFault)
	}
}

// R4.1

func TestValidPatches(t *testing.T) {
	checkValidate(t, patch(), api.Fault{})
	checkValidate(t, api.Patch{Hunks: []api.Hunk{}}, api.Fault{})
	checkValidate(t, patch(hunk(0, "a", "")), api.Fault{})
	checkValidate(t, patch(hunk(0, "", "a")), api.Fault{})
	checkValidate(t, patch(hunk(7, "a b", "c d e")), api.Fault{})
	checkValidate(t, patch(hunk(0, "a", "a")), api.Fault{})
	checkValidate(t, patch(hunk(0, "", "a"), hunk(1, "", "b")), api.Fault{})
	checkValidate(t, patch(hunk(0, "a", "b c d"), hunk(2, "e", ""), hunk(4, "", "f")), api.Fault{})
	checkValidate(t, patch(api.Hunk{At: 0, Old: []string{""}}), api.Fault{})
	for _, p := range samples.SmallPatches(3, 4) {
		checkValidate(t, p, api.Fault{})
	}
}

func TestExampleOfValidate(t *testing.T) {
	checkValidate(t, patch(hunk(0, "a", ""), hunk(1, "b", "")), fault(api.ErrMalformed, 1))
}

func TestValidateAtLimits(t *testing.T) {
	x := repeat(longest, api.MaxLines)
	checkValidate(t, patch(api.Hunk{At: 0, Old: x, New: x}), api.Fault{})
	checkValidate(t, patch(api.Hunk{At: api.MaxLines, New: x}), api.Fault{})
	checkValidate(t, patch(hunk(api.MaxLines-1, "a", "b")), api.Fault{})
	checkValidate(t, patch(api.Hunk{At: 1, Old: x[1:]}), api.Fault{})
	checkValidate(t, patch(hunk(0, "", "a"), api.Hunk{At: 1, Old: x[1:], New: x}), api.Fault{})
	checkValidate(t, insertions(api.MaxLines+1), api.Fault{})
}

func TestTooManyHunks(t *testing.T) {
	checkValidate(t, insertions(api.MaxHunks+1), fault(api.ErrTooMany, -1))
	checkValidate(t, patch(slices.Repeat([]api.Hunk{{At: -1}}, api.MaxHunks+1)...), fault(api.ErrTooMany, -1))
	// With one hunk less, the first invalid one is reported.
	checkValidate(t, insertions(api.MaxHunks), fault(api.ErrRange, api.MaxLines+1))
	checkValidate(t, patch(slices.Repeat([]api.Hunk{hunk(0, "", "a")}, api.MaxHunks)...), fault(api.ErrMalformed, 1))
}

// checkHunk checks the code of a hunk in three positions.
func checkHunk(t *testing.T, h api.Hunk, code int) {
	t.Helper()
	checkValidate(t, patch(h), fault(code, 0))
	checkValidate(t, patch(hunk(0, "", "a"), h), fault(code, 1))
	checkValidate(t, patch(hunk(0, "", "a"), hunk(1, "a", "b"), h, api.Hunk{At: -1}), fault(code, 2))
}

func TestHunkOutsideText(t *testing.T) {
	for _, at := range []int{-1, api.MaxLines + 1, math.MinInt, math.MaxInt, -api.MaxLines} {
		checkHunk(t, hunk(at, "", "a"), api.ErrRange)
		checkHunk(t, hunk(at, "a", ""), api.ErrRange)
	}
	checkHunk(t, hunk(api.MaxLines, "a", "b"), api.ErrRange)
	checkHunk(t, hunk(api.MaxLines-1, "a b", ""), api.ErrRange)
	checkHunk(t, api.Hunk{At: 4, Old: repeat("x", api.MaxLines-3)}, api.ErrRange)
}

func TestHunkWithInvalidLines(t *testing.T) {
	for _, c := range []struct {
		lines []string
		code  int
	}{
		{repeat("x", api.MaxLines+1), api.ErrTooMany},
		{[]string{tooLong}, api.ErrTooMany},
		{[]string{"a", newLine}, api.ErrMalformed},
		{[]string{newLine, tooLong}, api.ErrMalformed},
	} {
		checkHunk(t, api.Hunk{At: 5, Old: c.lines}, c.code)
		checkHunk(t, api.Hunk{At: 5, New: c.lines}, c.code)
	}
}

func TestEmptyHunk(t *testing.T) {
	checkHunk(t, api.Hunk{At: 5}, api.ErrMalformed)
	checkHunk(t, api.Hunk{At: api.MaxLines, Old: []string{}, New: []string{}}, api.ErrMalformed)
}

func TestHunksThatTouch(t *testing.T) {
	for _, c := range [][2]api.Hunk{
		{hunk(3, "", "a"), hunk(3, "", "b")},
		{hunk(3, "", "a"), hunk(3, "b", "")},
		{hunk(3, "a", ""), hunk(3, "", "b")},
		{hunk(3, "a", ""), hunk(4, "", "b")},
		{hunk(3, "a b c", "d"), hunk(6, "e", "f")},
		{hunk(3, "a b c", "d"), hunk(5, "c", "f")},
		{hunk(3, "a", "b"), hunk(2, "c", "")},
		{hunk(3, "a", "b"), hunk(0, "", "c")},
	} {
		checkValidate(t, patch(c[0], c[1]), fault(api.ErrMalformed, 1))
		checkValidate(t, patch(hunk(0, "a", ""), c[0], c[1]), fault(api.ErrMalformed, 2))
		next := c[1]
		next.At = c[0].At + len(c[0].Old) + 1
		checkValidate(t, patch(c[0], next), api.Fault{})
	}
}

func TestOrderOfHunkErrors(t *testing.T) {
	many, long, broken := repeat("x", api.MaxLines+1), []string{tooLong}, []string{newLine}
	// At, Old, New, the rules of hunks, and the end.
	checkHunk(t, api.Hunk{At: -1, Old: broken, New: long}, api.ErrRange)
	checkHunk(t, api.Hunk{At: -1}, api.ErrRange)
	checkHunk(t, api.Hunk{At: api.MaxLines + 1, Old: many}, api.ErrRange)
	checkHunk(t, api.Hunk{At: 5, Old: many, New: broken}, api.ErrTooMany)
	checkHunk(t, api.Hunk{At: 5, Old: broken, New: many}, api.ErrMalformed)
	checkHunk(t, api.Hunk{At: api.MaxLines, Old: broken}, api.ErrMalformed)
	checkHunk(t, api.Hunk{At: api.MaxLines, Old: words("a"), New: long}, api.ErrTooMany)
	checkValidate(t, patch(hunk(5, "a", ""), api.Hunk{At: 5, Old: long}), fault(api.ErrTooMany, 1))
	checkValidate(t, patch(hunk(5, "a", ""), api.Hunk{At: 5, New: long}), fault(api.ErrTooMany, 1))
	checkValidate(t, patch(hunk(api.MaxLines, "", "a"), hunk(api.MaxLines, "b", "")), fault(api.ErrMalformed, 1))
	// The end is checked before the next hunk.
	checkValidate(t, patch(hunk(api.MaxLines, "a", ""), hunk(0, "a", "")), fault(api.ErrRange, 0))
	checkValidate(t, patch(hunk(0, "a", ""), hunk(0, "a", ""), hunk(-1, "a", "")), fault(api.ErrMalformed, 1))
}

// R4.2

// apply replaces the lines of the hunks from the last one to the first one.
func apply(p api.Patch, text []string) []string {
	for _, h := range slices.Backward(p.Hunks) {
		text = slices.Concat(text[:h.At], h.New, text[h.At+len(h.Old):])
	}
	return text
}

// firstConflict returns the position of the first hunk that does not occur in a text, or -1.
func firstConflict(p api.Patch, text []string) int {
	for i, h := range p.Hunks {
		if h.At > len(text) {
			return i
		}
		rest := text[h.At:]
		for _, line := range h.Old {
			if len(rest) == 0 || rest[0] != line {
				return i
			}
			rest = rest[1:]
		}
	}
	return -1
}

func TestApplyFollowsDefinition(t *testing.T) {
	all := samples.Texts(3, "a", "b")
	applied, conflicts := 0, 0
	for _, p := range samples.SmallPatches(3, 4) {
		for _, text := range all {
			if i := firstConflict(p, text); i >= 0 {
				checkApply(t, p, text, nil, fault(api.ErrConflict, i))
				conflicts++
			} else {
				checkApply(t, p, text, apply(p, text), api.Fault{})
				applied++
			}
		}
	}
	if applied < 1000 || conflicts < 1000 {
		t.Errorf("only %d patches applied, and %d conflicts", applied, conflicts)
	}
}

func TestApplyValues(t *testing.T) {
	for _, c := range []struct {
		p          api.Patch
		text, want string
	}{
		{patch(), "", ""},
		{patch(), "a b", "a b"},
		{patch(hunk(1, "b", "c d")), "a b", "a c d"},
		{patch(hunk(0, "", "a")), "", "a"},
		{patch(hunk(2, "", "c")), "a b", "a b c"},
		{patch(hunk(0, "a b", "")), "a b", ""},
		// All indices refer to the given text, not to what the hunks before have made of it.
		{patch(hunk(0, "", "x y z"), hunk(2, "c", "")), "a b c d", "x y z a b d"},
		{patch(hunk(0, "a b", ""), hunk(3, "d", "e f")), "a b c d", "c e f"},
		{patch(hunk(0, "a", "b"), hunk(2, "b", "a"), hunk(4, "", "c")), "a b b a", "b b a a c"},
		{patch(hunk(0, "a", "a")), "a", "a"},
	} {
		checkApply(t, c.p, words(c.text), words(c.want), api.Fault{})
	}
}

func TestApplyConflicts(t *testing.T) {
	text := words("a b c")
	for _, h := range []api.Hunk{
		hunk(1, "a", ""), hunk(1, "B", ""), hunk(1, "b x", ""), hunk(1, "x c", "y"), hunk(2, "c d", ""),
		hunk(3, "d", "e"), hunk(4, "", "x"), hunk(api.MaxLines, "", "x"), hunk(api.MaxLines-1, "a", ""),
	} {
		checkApply(t, patch(h), text, nil, fault(api.ErrConflict, 0))
	}
	checkApply(t, patch(hunk(0, "a", "x"), hunk(2, "x", "y"), hunk(4, "", "x")), text, nil, fault(api.ErrConflict, 1))
	checkApply(t, patch(hunk(0, "a", "x"), hunk(2, "c", "y"), hunk(4, "", "x")), text, nil, fault(api.ErrConflict, 2))
	checkApply(t, patch(hunk(0, "x", "")), nil, nil, fault(api.ErrConflict, 0))
	checkApply(t, patch(api.Hunk{At: 0, Old: []string{""}}), nil, nil, fault(api.ErrConflict, 0))
	checkApply(t, patch(hunk(1, "", "x")), nil, nil, fault(api.ErrConflict, 0))
	// Spare capacity is not part of the text.
	checkApply(t, patch(hunk(1, "b c", "x")), text[:2], nil, fault(api.ErrConflict, 0))
	checkApply(t, patch(hunk(3, "", "x")), text[:2], nil, fault(api.ErrConflict, 0))
}

func TestApplyAtLimits(t *testing.T) {
	x, y := repeat(longest, api.MaxLines), repeat("y", api.MaxLines)
	tooLarge := fault(api.ErrTooLarge, -1)
	checkApply(t, patch(api.Hunk{At: 0, Old: x, New: y}), x, y, api.Fault{})
	checkApply(t, patch(api.Hunk{At: 0, New: x}), nil, x, api.Fault{})
	checkApply(t, patch(api.Hunk{At: 0, Old: x}), x, nil, api.Fault{})
	checkApply(t, patch(api.Hunk{At: 0, New: x}), y[:1], nil, tooLarge)
	checkApply(t, patch(api.Hunk{At: 1, New: y[1:]}), y[:1], y, api.Fault{})
	checkApply(t, patch(hunk(api.MaxLines, "", "y")), y, nil, tooLarge)
	checkApply(t, patch(hunk(0, "y", "a b")), y, nil, tooLarge)
	checkApply(t, patch(hunk(0, "", "y"), hunk(1, "", "y")), y[:api.MaxLines-1], nil, tooLarge)
	// Only the result counts.
	checkApply(t, patch(api.Hunk{At: 0, New: y[1:]}, api.Hunk{At: 1, Old: x[1:]}), x,
		append(slices.Clone(y[1:]), longest), api.Fault{})
}

func TestOrderOfApplyErrors(t *testing.T) {
	invalid := patch(hunk(0, "a", ""), hunk(1, "b", ""))
	many, y := repeat("", api.MaxLines+1), repeat("y", api.MaxLines)
	checkApply(t, invalid, words("a b"), nil, fault(api.ErrMalformed, 1))
	checkApply(t, invalid, many, nil, fault(api.ErrMalformed, 1))
	checkApply(t, insertions(api.MaxHunks+1), []string{newLine}, nil, fault(api.ErrTooMany, -1))
	checkApply(t, patch(), many, nil, fault(api.ErrTooMany, -2))
	checkApply(t, patch(), []string{"a", tooLong}, nil, fault(api.ErrTooMany, -2))
	checkApply(t, patch(), []string{"a", newLine}, nil, fault(api.ErrMalformed, -2))
	checkApply(t, patch(hunk(0, "x", "")), []string{"a", newLine}, nil, fault(api.ErrMalformed, -2))
	checkApply(t, patch(hunk(0, "", "a b"), hunk(3, "x", "")), y, nil, fault(api.ErrConflict, 1))
	checkApply(t, patch(hunk(0, "", "a b"), hunk(3, "y", "")), y, nil, fault(api.ErrTooLarge, -1))
}

// R4.3

// invert follows the definition for each hunk by itself.
func invert(p api.Patch) api.Patch {
	var inverse api.Patch
	for i, h := range p.Hunks {
		at := h.At
		for _, preceding := range p.Hunks[:i] {
			at += len(preceding.New) - len(preceding.Old)
		}
		inverse.Hunks = append(inverse.Hunks, api.Hunk{At: at, Old: h.New, New: h.Old})
	}
	return inverse
}

func TestInvertFollowsDefinition(t *testing.T) {
	for _, p := range samples.SmallPatches(4, 6) {
		checkInvert(t, p, invert(p), api.Fault{})
	}
}

func TestInvertValues(t *testing.T) {
	for _, c := range []struct{ p, want api.Patch }{
		{patch(), patch()},
		{patch(hunk(1, "b", "c d")), patch(hunk(1, "c d", "b"))},
		{patch(hunk(3, "", "a")), patch(hunk(3, "a", ""))},
		{patch(hunk(0, "a b", ""), hunk(3, "c", "d e f"), hunk(9, "", "g")),
			patch(hunk(0, "", "a b"), hunk(1, "d e f", "c"), hunk(9, "g", ""))},
	} {
		checkInvert(t, c.p, c.want, api.Fault{})
		checkInvert(t, c.want, c.p, api.Fault{})
	}
}

func TestInverseUndoes(t *testing.T) {
	random := rand.New(rand.NewSource(1))
	undone := 0
	for range 500 {
		text := samples.RandomText(random.Intn, random.Intn(api.MaxLines+1), 3)
		p := samples.RandomPatch(random.Intn, text, 2+random.Intn(8), 3)
		if changedText, f := Apply(p, text); f == (api.Fault{}) {
			inverse, _ := Invert(p)
			checkInvert(t, inverse, p, api.Fault{})
			checkApply(t, inverse, changedText, text, api.Fault{})
			undone++
		}
	}
	if undone < 200 {
		t.Errorf("only %d patches were undone", undone)
	}
}

func TestInvertAtLimits(t *testing.T) {
	x, y := repeat(longest, api.MaxLines), repeat("y", api.MaxLines)
	tooLarge := fault(api.ErrTooLarge, -1)
	checkInvert(t, patch(api.Hunk{At: 0, Old: x, New: y}), patch(api.Hunk{At: 0, Old: y, New: x}), api.Fault{})
	// The deletion of a line that begins at the limit ends behind it.
	checkInvert(t, patch(hunk(api.MaxLines, "", "y")), api.Patch{}, tooLarge)
	checkInvert(t, patch(hunk(api.MaxLines-1, "", "y")), patch(hunk(api.MaxLines-1, "y", "")), api.Fault{})
	// The second hunk begins at the limit, or behind it.
	checkInvert(t, patch(api.Hunk{At: 0, New: y[1:]}, hunk(1, "a", "")),
		patch(api.Hunk{At: 0, Old: y[1:]}, hunk(api.MaxLines, "", "a")), api.Fault{})
	checkInvert(t, patch(api.Hunk{At: 0, New: y}, hunk(1, "a", "")), api.Patch{}, tooLarge)
	checkInvert(t, patch(api.Hunk{At: 0, New: y[1:]}, hunk(1, "a", "b")), api.Patch{}, tooLarge)
	checkInvert(t, patch(api.Hunk{At: 0, Old: x[1:], New: y}, hunk(api.MaxLines, "", "a")), api.Patch{}, tooLarge)
	// No number of hunks is too large for the inverse.
	checkInvert(t, insertions(60), invert(insertions(60)), api.Fault{})
	checkInvert(t, insertions(61), api.Patch{}, tooLarge)
	checkInvert(t, insertions(api.MaxLines+1), api.Patch{}, tooLarge)
}

func TestInvertErrors(t *testing.T) {
	checkInvert(t, insertions(api.MaxHunks+1), api.Patch{}, fault(api.ErrTooMany, -1))
	checkInvert(t, patch(hunk(-1, "a", "")), api.Patch{}, fault(api.ErrRange, 0))
	checkInvert(t, patch(hunk(0, "a", ""), hunk(1, "b", "")), api.Patch{}, fault(api.ErrMalformed, 1))
	checkInvert(t, patch(api.Hunk{At: 0, New: []string{tooLong}}), api.Patch{}, fault(api.ErrTooMany, 0))
	// An invalid patch is reported before its inverse.
	checkInvert(t, patch(hunk(api.MaxLines, "", "y"), hunk(0, "", "y")), api.Patch{}, fault(api.ErrMalformed, 1))
}

// R4.4

// A tagged line has an index in the old text, or -1 if the first patch inserts it.
type tagged struct {
	line string
	old  int
}

func tag(text []string) []tagged {
	var all []tagged
	for _, line := range text {
		all = append(all, tagged{line, -1})
	}
	return all
}

func applyTagged(p api.Patch, text []tagged) []tagged {
	for _, h := range slices.Backward(p.Hunks) {
		text = slices.Concat(text[:h.At], tag(h.New), text[h.At+len(h.Old):])
	}
	return text
}

// compose applies both patches to an old text of n lines, and compares what remains of it with what it was.
func compose(p, q api.Patch, n int) (api.Patch, api.Fault) {
	var old []tagged
	for i := range n {
		old = append(old, tagged{"unknown", i})
	}
	middle := applyTagged(p, old)
	known := make([]string, n)
	for _, h := range p.Hunks {
		copy(known[h.At:], h.Old)
	}
	for i, h := range q.Hunks {
		for k, line := range h.Old {
			here := middle[h.At+k]
			if here.old >= 0 {
				known[here.old] = line
			} else if here.line != line {
				return api.Patch{}, fault(api.ErrConflict, -3-i)
			}
		}
	}
	return difference(known, applyTagged(q, middle)), api.Fault{}
}

// difference returns the patch between an old text and a new one in which the kept lines are known.
func difference(old []string, text []tagged) api.Patch {
	var p api.Patch
	at := 0
	var inserted []string
	for _, line := range append(text, tagged{old: len(old)}) {
		if line.old < 0 {
			inserted = append(inserted, line.line)
			continue
		}
		if at < line.old || len(inserted) > 0 {
			p.Hunks = append(p.Hunks, api.Hunk{At: at, Old: old[at:line.old], New: inserted})
		}
		at, inserted = line.old+1, nil
	}
	return p
}

func TestComposeFollowsDefinition(t *testing.T) {
	several := samples.SmallPatches(3, 3)
	faults := map[api.Fault]int{}
	for _, p := range several {
		for _, q := range several {
			want, wantFault := compose(p, q, 12)
			checkCompose(t, p, q, want, wantFault)
			faults[wantFault]++
		}
	}
	for _, f := range []api.Fault{{}, fault(api.ErrConflict, -3), fault(api.ErrConflict, -4)} {
		if faults[f] < 1000 {
			t.Errorf("only %d results with %v", faults[f], f)
		}
	}
}

func TestLargeCompositions(t *testing.T) {
	random := rand.New(rand.NewSource(2))
	composed := 0
	for range 2000 {
		kinds := 1 + random.Intn(5)
		text := samples.RandomText(random.Intn, random.Intn(api.MaxLines+1), kinds)
		p := samples.RandomPatch(random.Intn, text, 2+random.Intn(8), kinds)
		middle, f := Apply(p, text)
		if f != (api.Fault{}) {
			continue
		}
		q := samples.RandomPatch(random.Intn, middle, 2+random.Intn(8), kinds)
		result, f := Apply(q, middle)
		if f != (api.Fault{}) {
			continue
		}
		want, _ := compose(p, q, len(text))
		checkCompose(t, p, q, want, api.Fault{})
		both, _ := Compose(p, q)
		checkApply(t, both, text, result, api.Fault{})
		composed++
	}
	if composed < 500 {
		t.Errorf("only %d patches were composed", composed)
	}
}

func TestComposeValues(t *testing.T) {
	for _, c := range []struct{ p, q, want api.Patch }{
		{patch(), patch(), patch()},
		{patch(hunk(3, "a", "b")), patch(), patch(hunk(3, "a", "b"))},
		{patch(), patch(hunk(3, "a", "b")), patch(hunk(3, "a", "b"))},
		{patch(hunk(0, "", "a")), patch(hunk(0, "a", "b")), patch(hunk(0, "", "b"))},
		// What p inserts and q deletes has no hunk.
		{patch(hunk(0, "", "a")), patch(hunk(0, "a", "")), patch()},
		{patch(hunk(0, "", "a b c")), patch(hunk(1, "b", "")), patch(hunk(0, "", "a c"))},
		{patch(hunk(0, "", "a"), hunk(5, "b", "")), patch(hunk(0, "a", "")), patch(hunk(5, "b", ""))},
		// A line that p deletes and q inserts again is not kept.
		{patch(hunk(0, "a", "")), patch(hunk(0, "", "a")), patch(hunk(0, "a", "a"))},
		{patch(hunk(0, "a", "b")), patch(hunk(0, "b", "a")), patch(hunk(0, "a", "a"))},
		// Hunks without a kept line between them become one.
		{patch(hunk(0, "a", "x")), patch(hunk(1, "b", "y")), patch(hunk(0, "a b", "x y"))},
		{patch(hunk(1, "b", "x")), patch(hunk(0, "a", "y")), patch(hunk(0, "a b", "y x"))},
		{patch(hunk(0, "a", ""), hunk(2, "c", "")), patch(hunk(0, "b", "")), patch(hunk(0, "a b c", ""))},
		{patch(hunk(1, "", "x y")), patch(hunk(0, "a x", "z")), patch(hunk(0, "a", "z y"))},
		{patch(hunk(1, "", "x y")), patch(hunk(2, "y b", "z")), patch(hunk(1, "b", "x z"))},
		{patch(hunk(1, "", "x")), patch(hunk(0, "a x b", "")), patch(hunk(0, "a b", ""))},
		// Hunks with a kept line between them stay apart.
		{patch(hunk(0, "a", "x")), patch(hunk(2, "c", "y")), patch(hunk(0, "a", "x"), hunk(2, "c", "y"))},
		{patch(hunk(2, "c", "x")), patch(hunk(0, "a", "y z")), patch(hunk(0, "a", "y z"), hunk(2, "c", "x"))},
		{patch(hunk(0, "", "x")), patch(hunk(2, "", "y")), patch(hunk(0, "", "x"), hunk(1, "", "y"))},
		// At the same place, the new lines are in the order of the new text.
		{patch(hunk(1, "", "x")), patch(hunk(1, "", "y")), patch(hunk(1, "", "y x"))},
		{patch(hunk(1, "", "x")), patch(hunk(2, "", "y")), patch(hunk(1, "", "x y"))},
		{patch(hunk(1, "", "x z")), patch(hunk(2, "", "y")), patch(hunk(1, "", "x y z"))},
		{patch(hunk(1, "b", "")), patch(hunk(1, "", "y")), patch(hunk(1, "b", "y"))},
		// And the old lines are in the order of the old text.
		{patch(hunk(1, "b", "")), patch(hunk(1, "c", "")), patch(hunk(1, "b c", ""))},
		{patch(hunk(1, "b", "")), patch(hunk(0, "a c", "x")), patch(hunk(0, "a b c", "x"))},
		{patch(hunk(1, "b", "x")), patch(hunk(0, "a x c", "y")), patch(hunk(0, "a b c", "y"))},
		// Indices of q refer to the middle text, those of the result to the old text.
		{patch(hunk(0, "", "x y")), patch(hunk(5, "d", "")), patch(hunk(0, "", "x y"), hunk(3, "d", ""))},
		{patch(hunk(0, "a b", "")), patch(hunk(3, "f", "g")), patch(hunk(0, "a b", ""), hunk(5, "f", "g"))},
		{patch(hunk(2, "", "x y"), hunk(4, "e f", "z")), patch(hunk(2, "x", ""), hunk(9, "i", "")),
			patch(hunk(2, "", "y"), hunk(4, "e f", "z"), hunk(8, "i", ""))},
	} {
		checkCompose(t, c.p, c.q, c.want, api.Fault{})
	}
}

func TestComposeConflicts(t *testing.T) {
	p := patch(hunk(0, "", "a b"), hunk(3, "c", "d"))
	for _, c := range []struct {
		q     api.Patch
		index int
	}{
		{patch(hunk(0, "x", "")), -3},
		{patch(hunk(0, "b", "")), -3},
		{patch(hunk(0, "a x", "")), -3},
		{patch(hunk(1, "b", ""), hunk(5, "c", "")), -4},
		{patch(hunk(1, "x", ""), hunk(5, "c", "")), -3},
		{patch(hunk(0, "a", ""), hunk(2, "x", ""), hunk(4, "x x", "")), -5},
	} {
		checkCompose(t, p, c.q, api.Patch{}, fault(api.ErrConflict, c.index))
	}
	// What q deletes elsewhere may be any line.
	checkCompose(t, p, patch(hunk(0, "a", ""), hunk(2, "x", ""), hunk(4, "x d", ""), hunk(20, "x", "")),
		patch(hunk(0, "x", "b"), hunk(2, "x c", ""), hunk(18, "x", "")), api.Fault{})
	checkCompose(t, patch(hunk(0, "", "a")), patch(hunk(0, "x", "")), api.Patch{}, fault(api.ErrConflict, -3))
	empty := api.Hunk{At: 0, New: []string{""}}
	checkCompose(t, patch(empty), patch(hunk(0, "a", "")), api.Patch{}, fault(api.ErrConflict, -3))
	checkCompose(t, patch(empty), patch(api.Hunk{At: 0, Old: []string{""}}), patch(), api.Fault{})
}

func TestComposeAtLimits(t *testing.T) {
	x, y := repeat(longest, api.MaxLines), repeat("y", api.MaxLines)
	last := api.MaxLines - 1
	for _, c := range []struct{ p, q, want api.Patch }{
		// Both patches change as much as one may.
		{patch(api.Hunk{At: 0, Old: x, New: y}), patch(api.Hunk{At: 0, Old: y, New: x}), patch(api.Hunk{At: 0, Old: x, New: x})},
		{patch(api.Hunk{At: 0, Old: x[1:]}), patch(hunk(0, "y", "")), patch(api.Hunk{At: 0, Old: append(slices.Clone(x[1:]), "y")})},
		{patch(api.Hunk{At: 0, New: x[1:]}), patch(hunk(last, "", "y")), patch(api.Hunk{At: 0, New: append(slices.Clone(x[1:]), "y")})},
		{patch(hunk(0, "a", "")), patch(hunk(last, "", "y")), patch(hunk(0, "a", ""), hunk(api.MaxLines, "", "y"))},
		{patch(hunk(0, "a", "")), patch(hunk(last-1, "b", "y")), patch(hunk(0, "a", ""), hunk(last, "b", "y"))},
		{insertions(api.MaxLines + 1), patch(), insertions(api.MaxLines + 1)},
		{patch(), insertions(api.MaxLines + 1), insertions(api.MaxLines + 1)},
		// The middle text may be longer than a text, as long as the result is valid.
		{patch(api.Hunk{At: 0, New: y}, hunk(1, "a", "b")), patch(api.Hunk{At: 0, Old: y}), patch(hunk(1, "a", "b"))},
	} {
		checkCompose(t, c.p, c.q, c.want, api.Fault{})
	}
}

func TestComposeTooLarge(t *testing.T) {
	y := repeat("y", api.MaxLines)
	for _, c := range [][2]api.Patch{
		{patch(api.Hunk{At: 0, Old: y}), patch(hunk(0, "y", ""))},
		{patch(api.Hunk{At: 0, New: y}), patch(hunk(0, "", "y"))},
		{patch(api.Hunk{At: 0, New: y}), patch(hunk(api.MaxLines, "", "y"))},
		{patch(hunk(0, "a", "")), patch(hunk(api.MaxLines, "", "y"))},
		{patch(hunk(0, "a", "")), patch(hunk(api.MaxLines-1, "b", "y"))},
	} {
		checkCompose(t, c[0], c[1], api.Patch{}, fault(api.ErrTooLarge, -1))
	}
}

func TestOrderOfComposeErrors(t *testing.T) {
	touching := patch(hunk(0, "a", ""), hunk(1, "b", ""))
	many := insertions(api.MaxHunks + 1)
	outside := patch(hunk(0, "", "a"), hunk(-1, "", "a"))
	long := patch(api.Hunk{At: 0, New: []string{tooLong}})
	valid := patch(hunk(0, "", "a"))
	checkCompose(t, touching, valid, api.Patch{}, fault(api.ErrMalformed, 1))
	checkCompose(t, many, outside, api.Patch{}, fault(api.ErrTooMany, -1))
	checkCompose(t, outside, many, api.Patch{}, fault(api.ErrRange, 1))
	checkCompose(t, valid, many, api.Patch{}, fault(api.ErrTooMany, -2))
	checkCompose(t, valid, touching, api.Patch{}, fault(api.ErrMalformed, -2))
	checkCompose(t, valid, outside, api.Patch{}, fault(api.ErrRange, -2))
	checkCompose(t, valid, long, api.Patch{}, fault(api.ErrTooMany, -2))
	// The second patch is checked completely before conflicts, and all conflicts before the size of the result.
	checkCompose(t, valid, patch(hunk(0, "x", ""), hunk(1, "y", "")), api.Patch{}, fault(api.ErrMalformed, -2))
	large := patch(api.Hunk{At: 0, New: repeat("y", api.MaxLines)})
	checkCompose(t, large, patch(hunk(0, "", "a b"), hunk(3, "x", "")), api.Patch{}, fault(api.ErrConflict, -4))
	checkCompose(t, large, patch(hunk(0, "", "a b"), hunk(3, "y", "")), api.Patch{}, fault(api.ErrTooLarge, -1))
}

// Memory of all functions

func TestArgumentsStay(t *testing.T) {
	p := samples.SparePatch(patch(hunk(0, "a", "b c"), hunk(2, "", "d"), hunk(4, "e", "")))
	q := samples.SparePatch(patch(hunk(1, "c x", ""), hunk(6, "f", "g h")))
	text := samples.Spare(words("a x y z e"))
	beforeP, beforeQ := samples.WithCapacity(p), samples.WithCapacity(q)
	beforeText := slices.Clone(text[:cap(text)])
	Validate(p)
	checkApply(t, p, text, words("b c x d y z"), api.Fault{})
	checkInvert(t, p, patch(hunk(0, "b c", "a"), hunk(3, "d", ""), hunk(6, "", "e")), api.Fault{})
	checkCompose(t, p, q, patch(hunk(0, "a x", "b d"), hunk(4, "e f", "g h")), api.Fault{})
	afterP, afterQ := samples.WithCapacity(p), samples.WithCapacity(q)
	if !samples.EqualPatches(beforeP, afterP) || !samples.EqualPatches(beforeQ, afterQ) {
		t.Errorf("the patches became %v and %v", afterP, afterQ)
	}
	if !slices.Equal(beforeText, text[:cap(text)]) {
		t.Errorf("the text became %q", text[:cap(text)])
	}
}

func TestResultsAreNewMemory(t *testing.T) {
	p := samples.SparePatch(patch(hunk(0, "a", "b c"), hunk(2, "", "d"), hunk(4, "e", "")))
	q := samples.SparePatch(patch(hunk(1, "c x", ""), hunk(6, "f", "g h")))
	text := samples.Spare(words("a x y z e"))
	lists := [][]string{text}
	addHunks := func(p api.Patch) {
		for _, h := range p.Hunks {
			lists = append(lists, h.Old, h.New)
		}
	}
	addHunks(p)
	addHunks(q)
	for range 2 {
		changedText, _ := Apply(p, text)
		same, _ := Apply(patch(), text)
		lists = append(lists, changedText, same)
		inverse, _ := Invert(p)
		addHunks(inverse)
		for _, c := range [][2]api.Patch{{p, q}, {p, patch()}, {patch(), q}} {
			both, _ := Compose(c[0], c[1])
			addHunks(both)
		}
	}
	if len(lists) < 40 {
		t.Fatalf("only %d lists to compare", len(lists))
	}
	if samples.Shared(lists...) {
		t.Error("the results share memory with each other or with the arguments")
	}
}

func TestHunksAreNewMemory(t *testing.T) {
	p := samples.SparePatch(patch(hunk(0, "a", "b")))
	inverse, _ := Invert(p)
	left, _ := Compose(p, patch())
	right, _ := Compose(patch(), p)
	if samples.Shared(p.Hunks, inverse.Hunks, left.Hunks, right.Hunks) {
		t.Errorf("a result shares its hunks: %v %v %v %v", p, inverse, left, right)
	}
}
