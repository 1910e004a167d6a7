package unified

import (
	"math/rand"
	"slices"
	"testing"

	"changeforge/api"
	"changeforge/samples"
	"changeforge/textpatch"
)

func checkFuzzy(t *testing.T, text []string, p api.Patch, reach int, want []string, wantOffsets []int, wantFault api.Fault) {
	t.Helper()
	got, offsets, gotFault := Fuzzy(text, p, reach)
	if !slices.Equal(got, want) || !slices.Equal(offsets, wantOffsets) || gotFault != wantFault {
		t.Errorf("Fuzzy(%.100q, %s, %d): got %.100q %v %v, want %.100q %v %v",
			text, short(p), reach, got, offsets, gotFault, want, wantOffsets, wantFault)
	}
}

// checkFails checks that there is no result.
func checkFails(t *testing.T, text []string, p api.Patch, reach int, want api.Fault) {
	t.Helper()
	checkFuzzy(t, text, p, reach, nil, nil, want)
}

// checkOffsets checks the results for words.
func checkOffsets(t *testing.T, text string, p api.Patch, reach int, want string, offsets ...int) {
	t.Helper()
	checkFuzzy(t, words(text), p, reach, words(want), offsets, api.Fault{})
}

// The definition of Fuzzy, followed by choosing among all places at which the old lines of a hunk occur, from the last one to the first one.

func fuzzy(text []string, p api.Patch, reach int) ([]string, []int, api.Fault) {
	result := slices.Clone(text)
	var offsets []int
	preceding, growth := -1, 0
	for i, h := range p.Hunks {
		best, found := reach+1, false
		for at := len(text) - len(h.Old); at > preceding; at-- {
			if !slices.Equal(text[at:at+len(h.Old)], h.Old) {
				continue
			}
			if d := at - h.At; max(d, -d) <= max(best, -best) && max(d, -d) <= reach {
				best, found = d, true
			}
		}
		if !found {
			return nil, nil, fault(api.ErrConflict, i)
		}
		at := h.At + best + growth
		result = slices.Replace(result, at, at+len(h.Old), h.New...)
		offsets = append(offsets, best)
		preceding = h.At + best + len(h.Old)
		growth += len(h.New) - len(h.Old)
	}
	if len(result) > api.MaxLines {
		return nil, nil, fault(api.ErrTooLarge, -1)
	}
	return result, offsets, api.Fault{}
}

func checkFuzzyDefinition(t *testing.T, text []string, p api.Patch, reach int, kinds tally) {
	t.Helper()
	want, offsets, wantFault := fuzzy(text, p, reach)
	checkFuzzy(t, text, p, reach, want, offsets, wantFault)
	switch {
	case wantFault.Code == api.ErrConflict:
		kinds["conflict"]++
	case wantFault.Code == api.ErrTooLarge:
		kinds["too large"]++
	case slices.ContainsFunc(offsets, func(d int) bool { return d != 0 }):
		kinds["moved"]++
	default:
		kinds["in place"]++
	}
}

// R7.4

func TestExamplesOfFuzzy(t *testing.T) {
	checkOffsets(t, "x a", patch(hunk(0, "a", "b")), 2, "x b", 1)
	checkFails(t, words("x"), patch(hunk(0, "a", "")), 2, fault(api.ErrConflict, 0))
}

func TestNearestPlace(t *testing.T) {
	for _, c := range []struct {
		text  string
		at    int
		reach int
		want  string
		d     int
	}{
		{"a x x", 0, 5, "b x x", 0},
		{"x a x", 0, 5, "x b x", 1},
		{"a x x", 2, 5, "b x x", -2},
		{"a a a", 1, 5, "a b a", 0},
		{"a x x a", 1, 5, "b x x a", -1},
		{"a x x a", 2, 5, "a x x b", 1},
		{"a x x x a", 1, 5, "b x x x a", -1},
		{"a x x x a", 3, 5, "a x x x b", 1},
		// Of two places with the same distance, the one before counts.
		{"a x a", 1, 5, "b x a", -1},
		{"a x x x a", 2, 5, "b x x x a", -2},
		{"a a x x x a a", 3, 5, "a b x x x a a", -2},
		// The reach is the largest distance.
		{"x x a", 0, 2, "x x b", 2},
		{"a x x", 2, 2, "b x x", -2},
		{"a", 0, 0, "b", 0},
		// The hunk may be behind the text.
		{"x a", 5, 4, "x b", -4},
		{"a x", api.MaxLines - 1, api.MaxLines, "b x", 1 - api.MaxLines},
	} {
		checkOffsets(t, c.text, patch(hunk(c.at, "a", "b")), c.reach, c.want, c.d)
	}
	for _, c := range []struct {
		text      string
		at, reach int
	}{
		{"x a", 0, 0}, {"a x", 1, 0}, {"x x a", 0, 1}, {"a x x", 2, 1}, {"x a", 5, 3}, {"", 0, api.MaxLines}, {"x x", 1, api.MaxLines},
		{"a", api.MaxLines - 1, api.MaxLines - 2},
	} {
		checkFails(t, words(c.text), patch(hunk(c.at, "a", "b")), c.reach, fault(api.ErrConflict, 0))
	}
}

func TestAllOldLinesCount(t *testing.T) {
	checkOffsets(t, "a b a c a b c", patch(hunk(0, "a b c", "x")), 5, "a b a c x", 4)
	checkOffsets(t, "a b c a b", patch(hunk(3, "a b c", "x")), 5, "x a b", -3)
	checkFails(t, words("a b a"), patch(hunk(0, "a b c", "x")), 5, fault(api.ErrConflict, 0))
	checkFails(t, words("b c a"), patch(hunk(0, "a b c", "x")), 5, fault(api.ErrConflict, 0))
	// Spare capacity is not part of the text.
	checkFails(t, words("a b c")[:2], patch(hunk(0, "a b c", "x")), 5, fault(api.ErrConflict, 0))
	checkFuzzy(t, words("a b c d")[:2], patch(hunk(3, "", "x")), 5, words("a b x"), []int{-1}, api.Fault{})
}

func TestInsertionsMove(t *testing.T) {
	// A hunk without old lines occurs everywhere in the text, also at its end.
	checkOffsets(t, "a b", patch(hunk(1, "", "x")), 5, "a x b", 0)
	checkOffsets(t, "a b", patch(hunk(2, "", "x")), 0, "a b x", 0)
	checkOffsets(t, "a b", patch(hunk(3, "", "x")), 5, "a b x", -1)
	checkOffsets(t, "", patch(hunk(3, "", "x")), 3, "x", -3)
	checkOffsets(t, "", patch(hunk(api.MaxLines, "", "x")), api.MaxLines, "x", -api.MaxLines)
	checkFails(t, words("a b"), patch(hunk(3, "", "x")), 0, fault(api.ErrConflict, 0))
	checkFails(t, nil, patch(hunk(3, "", "x")), 2, fault(api.ErrConflict, 0))
	// It leaves a line between itself and the preceding hunk.
	checkOffsets(t, "x a b c", patch(hunk(0, "a", "y"), hunk(2, "", "z")), 5, "x y b z c", 1, 1)
	checkFails(t, words("x a"), patch(hunk(0, "a", "y"), hunk(2, "", "z")), 5, fault(api.ErrConflict, 1))
	checkFails(t, words("a"), patch(hunk(3, "", "y"), hunk(5, "", "z")), 5, fault(api.ErrConflict, 1))
}

func TestHunksKeepTheirOrder(t *testing.T) {
	// Each hunk has its own offset.
	checkOffsets(t, "x a y b z c", patch(hunk(0, "a", "1"), hunk(3, "b", "2"), hunk(6, "c", "3")), 5, "x 1 y 2 z 3", 1, 0, -1)
	// Both places refer to the given text, not to what the hunks before have made of it.
	checkOffsets(t, "x x a x b", patch(hunk(0, "a", "1 2 3"), hunk(2, "b", "4")), 5, "x x 1 2 3 x 4", 2, 2)
	checkOffsets(t, "a b x c", patch(hunk(1, "a b", ""), hunk(5, "c", "d")), 5, "x d", -1, -2)
	// A hunk begins behind the end of the preceding one, where that one is applied.
	checkOffsets(t, "a a a a", patch(hunk(0, "a", "1"), hunk(2, "a", "2")), 5, "1 a 2 a", 0, 0)
	checkOffsets(t, "x a a a", patch(hunk(0, "a", "1"), hunk(2, "a", "2")), 5, "x 1 a 2", 1, 1)
	checkOffsets(t, "b x a x b", patch(hunk(3, "a", "1"), hunk(5, "b", "2")), 5, "b x 1 x 2", -1, -1)
	checkOffsets(t, "x x a b b", patch(hunk(0, "a", "1"), hunk(3, "b", "2")), 5, "x x 1 b 2", 2, 1)
	checkFails(t, words("x a b"), patch(hunk(0, "a", "1"), hunk(2, "b", "2")), 5, fault(api.ErrConflict, 1))
	checkFails(t, words("b x a"), patch(hunk(0, "a", "1"), hunk(2, "b", "2")), 5, fault(api.ErrConflict, 1))
	checkFails(t, words("b a"), patch(hunk(0, "b", "1"), hunk(2, "a", "2")), 5, fault(api.ErrConflict, 1))
	// The first one takes the nearest place, even if that leaves none for the second one.
	checkFails(t, words("a x a b"), patch(hunk(2, "a", "1"), hunk(4, "b", "2")), 5, fault(api.ErrConflict, 1))
	// The place before the nearest one is not permitted, so that behind it is taken.
	checkOffsets(t, "a b x b", patch(hunk(0, "a", "1"), hunk(2, "b", "2")), 5, "1 b x 2", 0, 1)
	// What is not permitted does not count as a conflict of the first hunk, which may be anywhere in the text.
	checkOffsets(t, "a b c", patch(hunk(1, "a b c", "x")), 1, "x", -1)
	// The first hunk without an offset is reported.
	p := patch(hunk(0, "a", ""), hunk(2, "y", ""), hunk(4, "z", ""))
	checkFails(t, words("a b c"), p, 5, fault(api.ErrConflict, 1))
	checkFails(t, words("x y a z"), p, 5, fault(api.ErrConflict, 1))
	checkFails(t, words("a x y x x"), p, 5, fault(api.ErrConflict, 2))
}

func TestFuzzyWithoutHunks(t *testing.T) {
	for _, reach := range []int{0, 1, api.MaxLines} {
		checkFuzzy(t, nil, patch(), reach, nil, nil, api.Fault{})
		checkFuzzy(t, words("a b"), patch(), reach, words("a b"), nil, api.Fault{})
		full := repeat(longest, api.MaxLines)
		checkFuzzy(t, full, patch(), reach, full, nil, api.Fault{})
	}
}

func TestFuzzyFollowsDefinition(t *testing.T) {
	kinds := tally{}
	all := samples.Texts(6, "a", "b")
	for i, p := range samples.SmallPatches(3, 5) {
		// Each text meets one of the patches in five.
		for j := i % 5; j < len(all); j += 5 {
			for reach := range 5 {
				checkFuzzyDefinition(t, all[j], p, reach, kinds)
			}
		}
	}
	kinds.require(t, 1000, "in place", "moved", "conflict")
}

func TestLargeFuzzyFollowsDefinition(t *testing.T) {
	random := rand.New(rand.NewSource(5))
	kinds := tally{}
	for range 20000 {
		letters := 1 + random.Intn(26)
		old := samples.RandomText(random.Intn, random.Intn(api.MaxLines+1), letters)
		p := samples.RandomPatch(random.Intn, old, 2+random.Intn(60), letters)
		// The text has changed at another place.
		other := samples.RandomPatch(random.Intn, old, 2+random.Intn(60), letters)
		if len(other.Hunks) > 0 {
			other = patch(other.Hunks[random.Intn(len(other.Hunks))])
		}
		text, f := textpatch.Apply(other, old)
		if f != (api.Fault{}) {
			continue
		}
		checkFuzzyDefinition(t, text, p, random.Intn(api.MaxLines+1), kinds)
	}
	kinds.require(t, 500, "in place", "moved", "conflict")
	kinds.require(t, 200, "too large")
}

func TestWithoutReachFuzzyIsApply(t *testing.T) {
	random := rand.New(rand.NewSource(6))
	kinds := tally{}
	for range 1000 {
		text := samples.RandomText(random.Intn, random.Intn(api.MaxLines+1), 5)
		p := samples.RandomPatch(random.Intn, text, 2+random.Intn(20), 5)
		want, f := textpatch.Apply(p, text)
		offsets := make([]int, len(p.Hunks))
		if f != (api.Fault{}) {
			checkFails(t, text, p, 0, f)
			checkFails(t, text, p, api.MaxLines, f)
			continue
		}
		checkFuzzy(t, text, p, 0, want, offsets, api.Fault{})
		checkFuzzy(t, text, p, api.MaxLines, want, offsets, api.Fault{})
		kinds["applied"]++
	}
	kinds.require(t, 500, "applied")
}

func TestFuzzyAtLimits(t *testing.T) {
	last := api.MaxLines - 1
	y := repeat("y", api.MaxLines)
	text := append(repeat("y", last), "a")
	checkFuzzy(t, text, patch(hunk(0, "a", "b")), api.MaxLines, append(repeat("y", last), "b"), []int{last}, api.Fault{})
	checkFuzzy(t, text, patch(hunk(0, "a", "b")), last, append(repeat("y", last), "b"), []int{last}, api.Fault{})
	checkFails(t, text, patch(hunk(0, "a", "b")), last-1, fault(api.ErrConflict, 0))
	checkFuzzy(t, y, patch(api.Hunk{At: 0, Old: y, New: repeat(longest, api.MaxLines)}), 0, repeat(longest, api.MaxLines), []int{0}, api.Fault{})
	// The result may have as many lines as a text.
	checkFails(t, y, patch(hunk(7, "", "x")), 3, fault(api.ErrTooLarge, -1))
	checkFails(t, text, patch(hunk(7, "a", "x z")), api.MaxLines, fault(api.ErrTooLarge, -1))
	checkFuzzy(t, text[1:], patch(hunk(7, "a", "x z")), api.MaxLines, append(repeat("y", last-1), "x", "z"), []int{last - 8}, api.Fault{})
	checkFuzzy(t, text, patch(hunk(0, "y", ""), hunk(7, "a", "x z")), api.MaxLines,
		append(repeat("y", last-1), "x", "z"), []int{0, last - 7}, api.Fault{})
}

func TestReachOutsideRange(t *testing.T) {
	for _, reach := range outside() {
		checkFails(t, words("a"), patch(hunk(0, "a", "b")), reach, fault(api.ErrRange, -3))
		checkFails(t, nil, patch(), reach, fault(api.ErrRange, -3))
		// This comes before conflicts and the size of the result.
		checkFails(t, words("a"), patch(hunk(0, "x", "b")), reach, fault(api.ErrRange, -3))
		checkFails(t, repeat("y", api.MaxLines), patch(hunk(0, "", "x")), reach, fault(api.ErrRange, -3))
	}
}

func TestErrorsOfFuzzy(t *testing.T) {
	for _, c := range samples.InvalidPatches() {
		checkFails(t, words("a b c"), c.Patch, 1, c.Fault)
		checkFails(t, words("a b c"), c.Patch, -1, c.Fault)
		for _, other := range samples.InvalidTexts() {
			checkFails(t, other.Text, c.Patch, 1, c.Fault)
			checkFails(t, other.Text, c.Patch, -1, c.Fault)
		}
	}
	for _, c := range samples.InvalidTexts() {
		want := fault(c.Fault.Code, -2)
		checkFails(t, c.Text, patch(), 1, want)
		checkFails(t, c.Text, patch(hunk(0, "x", "y")), 1, want)
		checkFails(t, c.Text, patch(hunk(0, "a", "b")), -1, want)
	}
	// A conflict comes before the size of the result.
	full := repeat("y", api.MaxLines)
	checkFails(t, full, patch(hunk(0, "", "a"), hunk(2, "x", "")), 5, fault(api.ErrConflict, 1))
}

func TestArgumentsOfFuzzyStay(t *testing.T) {
	p := patch(hunk(0, "b", "x y"), hunk(3, "", "z"), hunk(5, "g", ""))
	checkStays(t, words("a b c d e f g h"), p, func(text []string, p api.Patch) {
		checkFuzzy(t, text, p, 2, words("a x y c z d e f h"), []int{1, 0, 1}, api.Fault{})
		checkFails(t, text, p, 0, fault(api.ErrConflict, 0))
		checkFails(t, text[:6], p, 2, fault(api.ErrConflict, 2))
	})
}

func TestResultsOfFuzzyAreNewMemory(t *testing.T) {
	text, p := words("a b c d"), patch(hunk(0, "b", "x y"), hunk(3, "", "z"))
	texts := [][]string{text}
	var offsets [][]int
	for _, h := range p.Hunks {
		texts = append(texts, h.Old, h.New)
	}
	for range 2 {
		for _, q := range []api.Patch{p, patch(), patch(p.Hunks[0]), patch(api.Hunk{At: 0, Old: text, New: p.Hunks[0].New})} {
			result, moved, _ := Fuzzy(text, q, 3)
			texts, offsets = append(texts, result), append(offsets, moved)
		}
	}
	if samples.Shared(texts...) || samples.Shared(offsets...) {
		t.Error("the results share memory with each other or with the arguments")
	}
}
