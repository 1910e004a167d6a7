package blame

import (
	"math/rand"
	"slices"
	"strconv"
	"strings"
	"testing"

	"changeforge/api"
	"changeforge/samples"
	"changeforge/textpatch"
)

const longest, tooLong, newLine = samples.Longest, samples.TooLong, samples.NewLine

var fault, repeat, words = samples.Fault, samples.Repeat, samples.Words

func checkAnnotate(t *testing.T, versions [][]string, want []int, wantFault api.Fault) {
	t.Helper()
	got, gotFault := Annotate(versions)
	if !slices.Equal(got, want) || gotFault != wantFault {
		t.Errorf("Annotate(%.20q): got %v %v, want %v %v", versions, got, gotFault, want, wantFault)
	}
}

// texts returns versions that are each written in one line.
func texts(list ...string) [][]string {
	var versions [][]string
	for _, text := range list {
		versions = append(versions, words(text))
	}
	return versions
}

// The definition of Annotate, followed from the last version back to the first one, for each line by itself.

// An alignment returns, for each line of b, its index in a, or -1 if it is inserted.
type alignment func(a, b []string) []int

func sources(a, b []string) []int {
	var found []int
	i := 0
	for _, step := range samples.Alignment(a, b, samples.LongestCommon) {
		switch step {
		case 'k':
			found = append(found, i)
			i++
		case 'd':
			i++
		case 'i':
			found = append(found, -1)
		}
	}
	return found
}

// remembered returns an alignment of texts whose lines have one byte each. It remembers what it has seen.
func remembered() alignment {
	known := map[[2]string][]int{}
	return func(a, b []string) []int {
		key := [2]string{strings.Join(a, ""), strings.Join(b, "")}
		if _, seen := known[key]; !seen {
			known[key] = sources(a, b)
		}
		return known[key]
	}
}

func annotate(versions [][]string, align alignment) []int {
	if len(versions) == 0 {
		return nil
	}
	last := len(versions) - 1
	origins := make([]int, len(versions[last]))
	places := make([]int, len(origins))
	for line := range places {
		places[line] = line
	}
	for i := last; i > 0; i-- {
		from := align(versions[i-1], versions[i])
		for line, place := range places {
			if place < 0 {
				continue
			}
			places[line] = from[place]
			if from[place] < 0 {
				origins[line] = i
			}
		}
	}
	return origins
}

// lists returns all lists of n of the given texts.
func lists(n int, all [][]string) [][][]string {
	found := [][][]string{nil}
	for range n {
		var next [][][]string
		for _, list := range found {
			for _, text := range all {
				next = append(next, append(slices.Clone(list), text))
			}
		}
		found = next
	}
	return found
}

// versionsOf returns n texts with at most the given number of lines, of the given number of kinds. Each is made from the one before by a few changes.
func versionsOf(random *rand.Rand, n, size, kinds int) [][]string {
	versions := [][]string{samples.RandomText(random.Intn, random.Intn(size+1), kinds)}
	for len(versions) < n {
		last := versions[len(versions)-1]
		p := samples.RandomPatch(random.Intn, last, 2+random.Intn(size/2), kinds)
		next, f := textpatch.Apply(p, last)
		if f == (api.Fault{}) && len(next) <= size {
			versions = append(versions, next)
		}
	}
	return versions
}

// R11.1

func TestExampleOfAnnotate(t *testing.T) {
	checkAnnotate(t, texts("a", "b a"), []int{1, 0}, api.Fault{})
}

func TestAnnotateValues(t *testing.T) {
	for _, c := range []struct {
		versions [][]string
		want     []int
	}{
		{texts("a b c"), []int{0, 0, 0}},
		{texts("a b", "a b"), []int{0, 0}},
		{texts("a b", "a c", "a c d"), []int{0, 1, 2}},
		{texts("a", "a b", "x a b", "x a y b"), []int{2, 0, 3, 1}},
		{texts("", "a"), []int{1}},
		{texts("", "", "a b", "", "c"), []int{4}},
		// Deleted lines leave the origins of the others as they are.
		{texts("a b c", "a c"), []int{0, 0}},
		{texts("a", "a b", "a b c", "b c", "c"), []int{2}},
		{texts("a b c", "a x y c", "y c"), []int{1, 0}},
		// So do versions without a change.
		{texts("a", "a", "a b", "a b", "a b c", "a b c"), []int{0, 2, 4}},
		// A line is replaced.
		{texts("a b c", "a x c"), []int{0, 1, 0}},
		{texts("a b c", "x y c", "x z c"), []int{1, 2, 0}},
		{texts("a", "b", "c"), []int{2}},
		// Several hunks in one version, of different lengths.
		{texts("a b c d e", "x a c y z d w"), []int{1, 0, 0, 1, 1, 0, 1}},
		{texts("a b c d", "b x y d", "w b x z d v"), []int{2, 0, 1, 2, 0, 2}},
	} {
		checkAnnotate(t, c.versions, c.want, api.Fault{})
	}
}

func TestEmptyResults(t *testing.T) {
	for _, versions := range [][][]string{
		nil, {}, {nil}, {{}}, {nil, {}, nil}, {{"a"}, nil}, {{"a"}, {"a", "b"}, {}},
	} {
		checkAnnotate(t, versions, nil, api.Fault{})
	}
}

func TestOnlyConsecutiveVersionsAreCompared(t *testing.T) {
	// A line that comes back is new, even if an earlier version had it at the same place.
	checkAnnotate(t, texts("a", "", "a"), []int{2}, api.Fault{})
	checkAnnotate(t, texts("a b c", "a c", "a b c"), []int{0, 2, 0}, api.Fault{})
	checkAnnotate(t, texts("a b", "x b", "a b", "a b"), []int{2, 0}, api.Fault{})
	checkAnnotate(t, texts("a b", "c d", "a b", "c d"), []int{3, 3}, api.Fault{})
}

func TestMovedLines(t *testing.T) {
	// Of the same number of kept lines, deleting comes before inserting.
	checkAnnotate(t, texts("x y", "y x"), []int{0, 1}, api.Fault{})
	checkAnnotate(t, texts("x y", "y x", "x y"), []int{1, 2}, api.Fault{})
	checkAnnotate(t, texts("a b c", "c b a"), []int{0, 1, 1}, api.Fault{})
	checkAnnotate(t, texts("a b c", "b c a"), []int{0, 0, 1}, api.Fault{})
	// Only inserting first keeps two lines.
	checkAnnotate(t, texts("x y z", "y x y"), []int{1, 0, 0}, api.Fault{})
}

func TestEqualLines(t *testing.T) {
	// The first of equal lines is kept.
	checkAnnotate(t, texts("a", "a a"), []int{0, 1}, api.Fault{})
	checkAnnotate(t, texts("a", "a a", "a a a"), []int{0, 1, 2}, api.Fault{})
	checkAnnotate(t, texts("a", "a a", "a"), []int{0}, api.Fault{})
	checkAnnotate(t, texts("a", "b a", "b a a", "a a"), []int{0, 2}, api.Fault{})
	// The lines around it tell which one is kept.
	checkAnnotate(t, texts("a b", "a b a", "b a"), []int{0, 1}, api.Fault{})
	checkAnnotate(t, texts("a b", "a a b"), []int{0, 1, 0}, api.Fault{})
	checkAnnotate(t, texts("b a", "a b a"), []int{1, 0, 0}, api.Fault{})
}

func TestLinesAreComparedByBytes(t *testing.T) {
	for _, c := range [][2]string{
		{"a", "A"}, {"a", "a "}, {"", " "}, {"", "\x00"}, {"a", "a\r"}, {"\xff", "\xfe"}, {"é", "e\u0301"},
		{longest, longest[1:]}, {longest, longest[1:] + "y"},
	} {
		a, b := []string{c[0]}, []string{c[1]}
		checkAnnotate(t, [][]string{a, b}, []int{1}, api.Fault{})
		checkAnnotate(t, [][]string{a, slices.Clone(a)}, []int{0}, api.Fault{})
		checkAnnotate(t, [][]string{a, {c[0], c[1]}, b}, []int{1}, api.Fault{})
	}
}

func TestEmptyLinesAreLines(t *testing.T) {
	checkAnnotate(t, [][]string{nil, {""}}, []int{1}, api.Fault{})
	checkAnnotate(t, [][]string{{""}, {"", ""}, {"", "a", ""}}, []int{0, 2, 1}, api.Fault{})
}

func TestSmallVersionsFollowDefinition(t *testing.T) {
	align := remembered()
	for _, c := range []struct {
		n   int
		all [][]string
	}{
		{1, samples.Texts(4, "a", "b", "c")},
		{2, samples.Texts(5, "a", "b")},
		{2, samples.Texts(4, "a", "b", "c")},
		{3, samples.Texts(3, "a", "b", "c")},
		{4, samples.Texts(3, "a", "b")},
	} {
		for _, versions := range lists(c.n, c.all) {
			checkAnnotate(t, versions, annotate(versions, align), api.Fault{})
		}
	}
}

func TestLargeVersionsFollowDefinition(t *testing.T) {
	random := rand.New(rand.NewSource(1))
	many := 0
	for round := range 250 {
		size := 8 + random.Intn(30)
		if round%25 == 0 {
			size = api.MaxLines
		}
		versions := versionsOf(random, 1+random.Intn(api.MaxVersions), size, 1+random.Intn(26))
		want := annotate(versions, sources)
		checkAnnotate(t, versions, want, api.Fault{})
		if len(slices.Compact(slices.Sorted(slices.Values(want)))) > 3 {
			many++
		}
	}
	if many < 50 {
		t.Errorf("only %d texts have lines of more than three versions", many)
	}
}

// annotated returns the result of a call that has to succeed.
func annotated(t *testing.T, versions [][]string) []int {
	t.Helper()
	origins, f := Annotate(versions)
	if f != (api.Fault{}) || len(versions) > 0 && len(origins) != len(versions[len(versions)-1]) {
		t.Fatalf("Annotate(%.20q): got %v %v", versions, origins, f)
	}
	return origins
}

func TestLinesAreInAllVersionsSinceTheirOrigin(t *testing.T) {
	random := rand.New(rand.NewSource(2))
	for range 300 {
		versions := versionsOf(random, api.MaxVersions, 40, 2+random.Intn(25))
		last := versions[len(versions)-1]
		for line, origin := range annotated(t, versions) {
			for i := origin; i < len(versions); i++ {
				if !slices.Contains(versions[i], last[line]) {
					t.Errorf("%q: line %d of origin %d is not in version %d", versions, line, origin, i)
				}
			}
		}
	}
}

func TestRepeatedVersionsLeaveOrigins(t *testing.T) {
	random := rand.New(rand.NewSource(3))
	for range 300 {
		versions := versionsOf(random, 2+random.Intn(api.MaxVersions-2), api.MaxLines, 2+random.Intn(25))
		want := annotated(t, versions)
		checkAnnotate(t, append(slices.Clone(versions), versions[len(versions)-1]), want, api.Fault{})
		// One that is repeated in between only moves the numbers of the later ones.
		n := random.Intn(len(versions))
		for line, origin := range want {
			if origin > n {
				want[line]++
			}
		}
		checkAnnotate(t, slices.Insert(slices.Clone(versions), n, versions[n]), want, api.Fault{})
	}
}

func TestAnnotateAtLimits(t *testing.T) {
	var appended, prepended, replaced [][]string
	var rising, falling, text []string
	var up, down []int
	for i := range api.MaxVersions {
		line := strconv.Itoa(i)
		rising, falling, text = append(rising, line), append([]string{line}, falling...), repeat(line+longest[2:], api.MaxLines)
		appended, prepended, replaced = append(appended, rising), append(prepended, falling), append(replaced, text)
		up, down = append(up, i), append([]int{i}, down...)
	}
	checkAnnotate(t, appended, up, api.Fault{})
	checkAnnotate(t, prepended, down, api.Fault{})
	checkAnnotate(t, replaced, slices.Repeat([]int{api.MaxVersions - 1}, api.MaxLines), api.Fault{})
	same := slices.Repeat([][]string{repeat(longest, api.MaxLines)}, api.MaxVersions)
	checkAnnotate(t, same, make([]int, api.MaxLines), api.Fault{})
	checkAnnotate(t, make([][]string, api.MaxVersions), nil, api.Fault{})
	// The lines of the first and the last version at every second place.
	first, last := repeat("a", api.MaxLines/2), []string{}
	var origins []int
	for range api.MaxLines / 2 {
		last = append(last, "a", longest)
		origins = append(origins, 0, api.MaxVersions-1)
	}
	versions := append(slices.Repeat([][]string{first}, api.MaxVersions-1), last)
	checkAnnotate(t, versions, origins, api.Fault{})
}

func TestTooManyVersions(t *testing.T) {
	want := fault(api.ErrTooMany, -1)
	checkAnnotate(t, make([][]string, api.MaxVersions+1), nil, want)
	checkAnnotate(t, make([][]string, 1000), nil, want)
	checkAnnotate(t, slices.Repeat(texts("a b"), api.MaxVersions+1), nil, want)
	// This is checked before the versions.
	for _, c := range samples.InvalidTexts() {
		checkAnnotate(t, slices.Repeat([][]string{c.Text}, api.MaxVersions+1), nil, want)
		checkAnnotate(t, append([][]string{c.Text}, make([][]string, api.MaxVersions)...), nil, want)
	}
}

func TestInvalidVersions(t *testing.T) {
	for _, c := range samples.InvalidTexts() {
		for _, n := range []int{1, 2, 5, api.MaxVersions} {
			for i := range n {
				versions := slices.Repeat(texts("a b"), n)
				versions[i] = c.Text
				// The position is that of the version, wherever its error is.
				checkAnnotate(t, versions, nil, fault(c.Fault.Code, i))
			}
		}
	}
	checkAnnotate(t, [][]string{nil, {"\n"}}, nil, fault(api.ErrMalformed, 1))
	checkAnnotate(t, [][]string{{"a", newLine}, nil}, nil, fault(api.ErrMalformed, 0))
	checkAnnotate(t, [][]string{nil, nil, {"a", "b", tooLong}}, nil, fault(api.ErrTooMany, 2))
}

func TestFirstInvalidVersionCounts(t *testing.T) {
	valid := words("a")
	for _, first := range samples.InvalidTexts() {
		for _, second := range samples.InvalidTexts() {
			checkAnnotate(t, [][]string{first.Text, second.Text}, nil, fault(first.Fault.Code, 0))
			checkAnnotate(t, [][]string{valid, first.Text, valid, second.Text}, nil, fault(first.Fault.Code, 1))
		}
	}
}

func TestArgumentsStay(t *testing.T) {
	memory := append(texts("a b c", "x b", "x b c y"), words("after"), words("it"))
	for i, text := range memory {
		memory[i] = samples.Spare(text)
	}
	var before [][]string
	for _, text := range memory {
		before = append(before, slices.Clone(text[:cap(text)]))
	}
	checkAnnotate(t, memory[:3], []int{1, 0, 2, 2}, api.Fault{})
	checkAnnotate(t, memory[:1], []int{0, 0, 0}, api.Fault{})
	checkAnnotate(t, append(memory[:2:2], words("a"), []string{newLine}), nil, fault(api.ErrMalformed, 3))
	for i, text := range memory {
		if after := text[:cap(text)]; !slices.Equal(after, before[i]) {
			t.Errorf("version %d became %q", i, after)
		}
	}
}

func TestResultsAreNewMemory(t *testing.T) {
	var results [][]int
	for range 2 {
		for _, versions := range [][][]string{texts("a b c"), texts("a b", "a b"), texts("a b c", "x b", "x b c y")} {
			results = append(results, annotated(t, versions))
		}
	}
	if samples.Shared(results...) {
		t.Error("the results share memory")
	}
}
