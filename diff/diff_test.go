package diff

import (
	"math/rand"
	"slices"
	"strings"
	"testing"

	"changeforge/api"
	"changeforge/samples"
)

const longest, tooLong, newLine = samples.Longest, samples.TooLong, samples.NewLine

var (
	fault, repeat, words = samples.Fault, samples.Repeat, samples.Words
	patch, hunk          = samples.Patch, samples.Hunk
)

func checkDistance(t *testing.T, a, b []string, want int, wantFault api.Fault) {
	t.Helper()
	got, gotFault := Distance(a, b)
	if got != want || gotFault != wantFault {
		t.Errorf("Distance(%.60q, %.60q): got %d %v, want %d %v", a, b, got, gotFault, want, wantFault)
	}
}

func checkScript(t *testing.T, a, b []string, want api.Patch, wantFault api.Fault) {
	t.Helper()
	got, gotFault := Script(a, b)
	if !samples.EqualPatches(got, want) || gotFault != wantFault {
		t.Errorf("Script(%.60q, %.60q): got %v %v, want %v %v", a, b, got, gotFault, want, wantFault)
	}
}

func checkCommon(t *testing.T, a, b []string, want []string, wantFault api.Fault) {
	t.Helper()
	got, gotFault := Common(a, b)
	if !slices.Equal(got, want) || gotFault != wantFault {
		t.Errorf("Common(%.60q, %.60q): got %.60q %v, want %.60q %v", a, b, got, gotFault, want, wantFault)
	}
}

// A length returns the length of the longest common subsequence of two texts.
type length func(a, b []string) int

// lengthOfSmall compares all subsequences with each other, and remembers what it has seen.
func lengthOfSmall() length {
	lists := map[string][]string{}
	lengths := map[[2]string]int{}
	return func(a, b []string) int {
		key := [2]string{strings.Join(a, ""), strings.Join(b, "")}
		n, known := lengths[key]
		if known {
			return n
		}
		for _, text := range key {
			if lists[text] == nil {
				lists[text] = subsequences(text)
			}
		}
		for _, sub := range lists[key[0]] {
			if len(sub) > n && slices.Contains(lists[key[1]], sub) {
				n = len(sub)
			}
		}
		lengths[key] = n
		return n
	}
}

// subsequences returns the subsequences of a text whose lines have one byte each.
func subsequences(text string) []string {
	all := []string{""}
	for i := range len(text) {
		for _, sub := range all {
			all = append(all, sub+text[i:i+1])
		}
	}
	slices.Sort(all)
	return slices.Compact(all)
}

// script makes the patch of an alignment, step by step.
func script(a, b []string, word string) api.Patch {
	var p api.Patch
	i, j := 0, 0
	for step := range len(word) {
		if word[step] == 'k' {
			i++
			j++
			continue
		}
		if step == 0 || word[step-1] == 'k' {
			p.Hunks = append(p.Hunks, api.Hunk{At: i})
		}
		h := &p.Hunks[len(p.Hunks)-1]
		if word[step] == 'd' {
			h.Old = append(h.Old, a[i])
			i++
		} else {
			h.New = append(h.New, b[j])
			j++
		}
	}
	return p
}

// kept returns the lines of a that an alignment keeps.
func kept(a []string, word string) []string {
	var lines []string
	for i, step := range strings.ReplaceAll(word, "i", "") {
		if step == 'k' {
			lines = append(lines, a[i])
		}
	}
	return lines
}

// checkAll compares all functions with their definitions.
func checkAll(t *testing.T, a, b []string, longestCommon length) {
	t.Helper()
	word := samples.Alignment(a, b, longestCommon)
	checkDistance(t, a, b, len(a)+len(b)-2*longestCommon(a, b), api.Fault{})
	checkDistance(t, a, b, len(word)-strings.Count(word, "k"), api.Fault{})
	checkScript(t, a, b, script(a, b, word), api.Fault{})
	checkCommon(t, a, b, kept(a, word), api.Fault{})
}

// R3.1, R3.2 and R3.3

func TestSmallTextsFollowDefinition(t *testing.T) {
	longestCommon := lengthOfSmall()
	for _, all := range [][][]string{samples.Texts(6, "x", "y"), samples.Texts(4, "x", "y", "z")} {
		for _, a := range all {
			for _, b := range all {
				checkAll(t, a, b, longestCommon)
			}
		}
	}
}

func TestLongTextsFollowDefinition(t *testing.T) {
	random := rand.New(rand.NewSource(1))
	for range 60 {
		kinds := 1 + random.Intn(26)
		a := samples.RandomText(random.Intn, random.Intn(40), kinds)
		b := samples.RandomText(random.Intn, random.Intn(40), kinds)
		checkAll(t, a, b, samples.LongestCommon)
	}
	for _, kinds := range []int{1, 2, 5, 26} {
		a := samples.RandomText(random.Intn, api.MaxLines, kinds)
		b := samples.RandomText(random.Intn, api.MaxLines, kinds)
		checkAll(t, a, b, samples.LongestCommon)
	}
}

func TestLinesAreComparedByBytes(t *testing.T) {
	for _, c := range [][2]string{
		{"a", "A"}, {"a", "a "}, {"a", " a"}, {"", " "}, {"", "\x00"}, {"a", "a\r"}, {"\xff", "\xfe"},
		{"é", "e\u0301"}, {longest, longest[1:]}, {longest, longest[1:] + "y"}, {longest, "y" + longest[1:]},
	} {
		a, b := []string{c[0]}, []string{c[1]}
		checkDistance(t, a, b, 2, api.Fault{})
		checkScript(t, a, b, patch(api.Hunk{At: 0, Old: a, New: b}), api.Fault{})
		checkCommon(t, a, b, nil, api.Fault{})
		for _, same := range [][]string{a, b} {
			checkDistance(t, same, slices.Clone(same), 0, api.Fault{})
			checkScript(t, same, slices.Clone(same), patch(), api.Fault{})
			checkCommon(t, same, slices.Clone(same), same, api.Fault{})
		}
	}
}

// R3.1

func TestDistanceValues(t *testing.T) {
	for _, c := range []struct {
		a, b string
		want int
	}{
		{"", "", 0},
		{"x", "x", 0},
		{"", "x", 1},
		{"x", "", 1},
		{"x", "y", 2},
		{"x y", "y z", 2},
		{"a b c", "c b a", 4},
		{"a b c a b b a", "c b a b a c", 5},
		{"x x x", "x", 2},
		{"a b c d", "a x c y", 4},
	} {
		checkDistance(t, words(c.a), words(c.b), c.want, api.Fault{})
	}
}

func TestDistanceLimits(t *testing.T) {
	checkDistance(t, repeat("x", api.MaxLines), repeat("x", api.MaxLines), 0, api.Fault{})
	checkDistance(t, repeat(longest, api.MaxLines), repeat("y", api.MaxLines), 2*api.MaxLines, api.Fault{})
	checkDistance(t, repeat("x", api.MaxLines), nil, api.MaxLines, api.Fault{})
	checkDistance(t, nil, repeat("x", api.MaxLines), api.MaxLines, api.Fault{})
}

// R3.2

func TestScriptValues(t *testing.T) {
	for _, c := range []struct {
		a, b string
		want api.Patch
	}{
		{"", "", patch()},
		{"x y", "x y", patch()},
		{"x y", "y z", patch(hunk(0, "x", ""), hunk(2, "", "z"))},
		{"a", "b", patch(hunk(0, "a", "b"))},
		{"", "x y", patch(hunk(0, "", "x y"))},
		{"x y", "", patch(hunk(0, "x y", ""))},
		{"a b", "c d", patch(hunk(0, "a b", "c d"))},
		// Deleting x keeps as much as inserting y, and is preferred.
		{"x y", "y x", patch(hunk(0, "x", ""), hunk(2, "", "x"))},
		// Only inserting y first keeps two lines.
		{"x y z", "y x y", patch(hunk(0, "", "y"), hunk(2, "z", ""))},
		{"x y x", "y x y", patch(hunk(0, "x", ""), hunk(3, "", "y"))},
		{"a b c", "c b a", patch(hunk(0, "a b", ""), hunk(3, "", "b a"))},
		// The first of equal lines is kept.
		{"x x", "x", patch(hunk(1, "x", ""))},
		{"x", "x x", patch(hunk(1, "", "x"))},
		{"k a k b c k", "k d k k e", patch(hunk(1, "a", "d"), hunk(3, "b c", ""), hunk(6, "", "e"))},
	} {
		checkScript(t, words(c.a), words(c.b), c.want, api.Fault{})
	}
	checkScript(t, nil, []string{""}, patch(api.Hunk{At: 0, New: []string{""}}), api.Fault{})
	checkScript(t, []string{""}, []string{}, patch(api.Hunk{At: 0, Old: []string{""}}), api.Fault{})
}

func TestScriptLimits(t *testing.T) {
	x, y := repeat(longest, api.MaxLines), repeat("y", api.MaxLines)
	checkScript(t, x, y, patch(api.Hunk{At: 0, Old: x, New: y}), api.Fault{})
	checkScript(t, x, nil, patch(api.Hunk{At: 0, Old: x}), api.Fault{})
	checkScript(t, nil, x, patch(api.Hunk{At: 0, New: x}), api.Fault{})
	checkScript(t, x, x, patch(), api.Fault{})
	last := append(repeat(longest, api.MaxLines-1), "z")
	checkScript(t, x, last, patch(api.Hunk{At: api.MaxLines - 1, Old: []string{longest}, New: []string{"z"}}), api.Fault{})
}

func TestScriptWithManyHunks(t *testing.T) {
	var a, b []string
	var want api.Patch
	for n := 0; n < 80; n++ {
		a, b = append(a, "k"), append(b, "k")
		if n%2 == 0 {
			want.Hunks = append(want.Hunks, hunk(len(a), "d", ""))
			a = append(a, "d")
		} else {
			want.Hunks = append(want.Hunks, hunk(len(a), "", "i"))
			b = append(b, "i")
		}
	}
	checkScript(t, a, b, want, api.Fault{})
}

// apply replaces the lines of the hunks from the last one to the first one.
func apply(p api.Patch, text []string) []string {
	for _, h := range slices.Backward(p.Hunks) {
		text = slices.Concat(text[:h.At], h.New, text[h.At+len(h.Old):])
	}
	return text
}

func TestScriptLeadsToSecondText(t *testing.T) {
	random := rand.New(rand.NewSource(2))
	for range 300 {
		kinds := 1 + random.Intn(10)
		a := samples.RandomText(random.Intn, random.Intn(api.MaxLines+1), kinds)
		b := samples.RandomText(random.Intn, random.Intn(api.MaxLines+1), kinds)
		p, _ := Script(a, b)
		changed := 0
		for i, h := range p.Hunks {
			changed += len(h.Old) + len(h.New)
			if i > 0 && h.At <= p.Hunks[i-1].At+len(p.Hunks[i-1].Old) {
				t.Errorf("Script(%q, %q): hunk %d touches the one before", a, b, i)
			}
		}
		if got := apply(p, a); !slices.Equal(got, b) {
			t.Errorf("Script(%q, %q) leads to %q", a, b, got)
		}
		checkDistance(t, a, b, changed, api.Fault{})
	}
}

// R3.3

func TestCommonValues(t *testing.T) {
	for _, c := range []struct{ a, b, want string }{
		{"", "", ""},
		{"x", "", ""},
		{"", "x", ""},
		{"x y", "y z", "y"},
		{"x y", "y x", "y"},
		{"a b c", "c b a", "c"},
		{"x x x", "x x", "x x"},
		{"k a k b c k", "k d k k e", "k k k"},
		{"a b c a b b a", "c b a b a c", "c b b a"},
	} {
		checkCommon(t, words(c.a), words(c.b), words(c.want), api.Fault{})
	}
}

func TestCommonLimits(t *testing.T) {
	x := repeat(longest, api.MaxLines)
	checkCommon(t, x, slices.Clone(x), x, api.Fault{})
	checkCommon(t, x, x[:api.MaxLines-1], x[:api.MaxLines-1], api.Fault{})
	checkCommon(t, x, repeat("y", api.MaxLines), nil, api.Fault{})
}

// Errors of all functions

func checkFault(t *testing.T, a, b []string, want api.Fault) {
	t.Helper()
	checkDistance(t, a, b, 0, want)
	checkScript(t, a, b, api.Patch{}, want)
	checkCommon(t, a, b, nil, want)
}

func TestErrorsOfFirstText(t *testing.T) {
	valid := words("a b")
	checkFault(t, repeat("", api.MaxLines+1), valid, fault(api.ErrTooMany, -1))
	checkFault(t, []string{tooLong}, valid, fault(api.ErrTooMany, 0))
	checkFault(t, []string{"a", tooLong}, valid, fault(api.ErrTooMany, 1))
	checkFault(t, []string{"a", "b", newLine}, valid, fault(api.ErrMalformed, 2))
	checkFault(t, []string{"a", newLine, tooLong}, valid, fault(api.ErrMalformed, 1))
	checkFault(t, []string{"\n"}, nil, fault(api.ErrMalformed, 0))
}

func TestErrorsOfSecondText(t *testing.T) {
	valid := words("a b")
	checkFault(t, valid, repeat("", api.MaxLines+1), fault(api.ErrTooMany, -2))
	checkFault(t, valid, []string{tooLong}, fault(api.ErrTooMany, -2))
	checkFault(t, valid, []string{"a", tooLong, newLine}, fault(api.ErrTooMany, -2))
	checkFault(t, valid, []string{"a", "b", newLine}, fault(api.ErrMalformed, -2))
	checkFault(t, valid, []string{"a", newLine, tooLong}, fault(api.ErrMalformed, -2))
	checkFault(t, nil, []string{"\n"}, fault(api.ErrMalformed, -2))
}

func TestErrorsOfFirstTextComeFirst(t *testing.T) {
	many := repeat("", api.MaxLines+1)
	checkFault(t, many, []string{newLine}, fault(api.ErrTooMany, -1))
	checkFault(t, []string{"a", newLine}, many, fault(api.ErrMalformed, 1))
	checkFault(t, []string{"a", tooLong}, []string{newLine}, fault(api.ErrTooMany, 1))
	checkFault(t, []string{newLine}, []string{newLine}, fault(api.ErrMalformed, 0))
}

// Memory of all functions

func TestArgumentsStay(t *testing.T) {
	a := words("x y z spare capacity")
	b := words("y x w spare capacity")
	beforeA, beforeB := slices.Clone(a), slices.Clone(b)
	Distance(a[:3], b[:3])
	Script(a[:3], b[:3])
	Common(a[:3], b[:3])
	if !slices.Equal(a, beforeA) || !slices.Equal(b, beforeB) {
		t.Errorf("the arguments became %q and %q", a, b)
	}
}

func TestResultsAreNewMemory(t *testing.T) {
	a, b := words("a b k c d k e k"), words("k f g k k h i")
	common, _ := Common(a, b)
	again, _ := Common(a, b)
	lists := [][]string{common, again}
	for range 2 {
		p, _ := Script(a, b)
		for _, h := range p.Hunks {
			lists = append(lists, h.Old, h.New)
		}
	}
	if len(lists) < 10 {
		t.Fatalf("only %d lists to compare", len(lists))
	}
	if samples.Shared(append(lists, a, b)...) {
		t.Error("the results share memory with each other or with the arguments")
	}
}
