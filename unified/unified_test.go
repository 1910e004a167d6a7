package unified

import (
	"fmt"
	"math"
	"math/rand"
	"slices"
	"strings"
	"testing"

	"changeforge/api"
	"changeforge/samples"
	"changeforge/textpatch"
)

const longest, tooLong, newLine = samples.Longest, samples.TooLong, samples.NewLine

var (
	fault, repeat, words = samples.Fault, samples.Repeat, samples.Words
	patch, hunk          = samples.Patch, samples.Hunk
)

func checkFormat(t *testing.T, text []string, p api.Patch, context int, want string, wantFault api.Fault) {
	t.Helper()
	got, gotFault := Format(text, p, context)
	if got != want || gotFault != wantFault {
		t.Errorf("Format(%.100q, %s, %d): got %.300q %v, want %.300q %v",
			text, short(p), context, got, gotFault, want, wantFault)
	}
}

// short returns the beginning of a patch as it is printed.
func short(p api.Patch) string { return fmt.Sprintf("%.300s", fmt.Sprint(p)) }

// A tally counts the kinds of results, so that a test can require each of them.
type tally map[string]int

func (c tally) require(t *testing.T, n int, kinds ...string) {
	t.Helper()
	for _, kind := range kinds {
		if c[kind] < n {
			t.Errorf("%s: only %d", kind, c[kind])
		}
	}
}

// diffOf returns a unified diff whose lines are separated by slashes.
func diffOf(lines string) string {
	if lines == "" {
		return ""
	}
	return strings.ReplaceAll(lines, "/", "\n") + "\n"
}

// numbered returns a text of n different lines.
func numbered(n int) []string {
	var text []string
	for i := range n {
		text = append(text, fmt.Sprint(i))
	}
	return text
}

// The definition of Format, followed from the diff of the whole text: a kept line is shown if few lines are between it and a changed one.

// A row is a line of the diff of the whole text, with how many lines of both texts come before it.
type row struct {
	mark     byte
	line     string
	old, new int
}

func rowsOf(text []string, p api.Patch) []row {
	var rows []row
	add := func(mark byte, lines []string) {
		for _, line := range lines {
			next := row{mark: mark, line: line}
			for _, r := range rows {
				next.old += strings.Count(" -", string(r.mark))
				next.new += strings.Count(" +", string(r.mark))
			}
			rows = append(rows, next)
		}
	}
	from := 0
	for _, h := range p.Hunks {
		add(' ', text[from:h.At])
		add('-', h.Old)
		add('+', h.New)
		from = h.At + len(h.Old)
	}
	add(' ', text[from:])
	return rows
}

// groupOf returns a group of rows as it is written.
func groupOf(rows []row) string {
	var body string
	var n, m int
	for _, r := range rows {
		body += string(r.mark) + r.line + "\n"
		n += strings.Count(" -", string(r.mark))
		m += strings.Count(" +", string(r.mark))
	}
	s, t := rows[0].old, rows[0].new
	if n > 0 {
		s++
	}
	if m > 0 {
		t++
	}
	return fmt.Sprintf("@@ -%d,%d +%d,%d @@\n", s, n, t, m) + body
}

func format(text []string, p api.Patch, context int) string {
	rows := rowsOf(text, p)
	var diff string
	var group []row
	for i := range rows {
		near := rows[max(0, i-context):min(len(rows), i+context+1)]
		if slices.ContainsFunc(near, func(r row) bool { return r.mark != ' ' }) {
			group = append(group, rows[i])
		}
		ends := i+1 == len(rows) || len(group) > 0 && group[len(group)-1] != rows[i]
		if ends && len(group) > 0 {
			diff += groupOf(group)
			group = nil
		}
	}
	return diff
}

// R7.1 and R7.2

func TestExamplesOfFormat(t *testing.T) {
	checkFormat(t, words("a b"), patch(hunk(1, "b", "c")), 1, "@@ -1,2 +1,2 @@\n a\n-b\n+c\n", api.Fault{})
	checkFormat(t, nil, patch(hunk(0, "", "a")), 0, "@@ -0,0 +1,1 @@\n+a\n", api.Fault{})
}

func TestHeaders(t *testing.T) {
	text := words("a b c d e f")
	for _, c := range []struct {
		text []string
		h    api.Hunk
		want string
	}{
		{text, hunk(0, "a", "x"), "@@ -1,1 +1,1 @@/-a/+x"},
		{text, hunk(5, "f", "x"), "@@ -6,1 +6,1 @@/-f/+x"},
		{text, hunk(2, "c d", "x y z"), "@@ -3,2 +3,3 @@/-c/-d/+x/+y/+z"},
		// Without old lines, the first number is that of the line before.
		{text, hunk(0, "", "x"), "@@ -0,0 +1,1 @@/+x"},
		{text, hunk(1, "", "x y"), "@@ -1,0 +2,2 @@/+x/+y"},
		{text, hunk(6, "", "x"), "@@ -6,0 +7,1 @@/+x"},
		{nil, hunk(0, "", "x y"), "@@ -0,0 +1,2 @@/+x/+y"},
		// And the same for new lines.
		{text, hunk(0, "a", ""), "@@ -1,1 +0,0 @@/-a"},
		{text, hunk(1, "b", ""), "@@ -2,1 +1,0 @@/-b"},
		{text, hunk(5, "f", ""), "@@ -6,1 +5,0 @@/-f"},
		{text, hunk(0, "a b c d e f", ""), "@@ -1,6 +0,0 @@/-a/-b/-c/-d/-e/-f"},
		// Equal old and new lines are written as they are in the patch.
		{text, hunk(1, "b", "b"), "@@ -2,1 +2,1 @@/-b/+b"},
	} {
		checkFormat(t, c.text, patch(c.h), 0, diffOf(c.want), api.Fault{})
	}
}

func TestHeadersCountPrecedingHunks(t *testing.T) {
	text := words("a b c d e f g h")
	p := patch(hunk(0, "", "x y"), hunk(2, "c", ""), hunk(4, "", "z"), hunk(6, "g h", "u"))
	checkFormat(t, text, p, 0,
		diffOf("@@ -0,0 +1,2 @@/+x/+y/@@ -3,1 +4,0 @@/-c/@@ -4,0 +6,1 @@/+z/@@ -7,2 +9,1 @@/-g/-h/+u"), api.Fault{})
	p = patch(hunk(0, "a b c", ""), hunk(4, "", "x"))
	checkFormat(t, text, p, 0, diffOf("@@ -1,3 +0,0 @@/-a/-b/-c/@@ -4,0 +2,1 @@/+x"), api.Fault{})
	checkFormat(t, text, patch(hunk(0, "a b", ""), hunk(7, "h", "x")), 1,
		diffOf("@@ -1,3 +1,1 @@/-a/-b/ c/@@ -7,2 +5,2 @@/ g/-h/+x"), api.Fault{})
}

func TestContextOfGroup(t *testing.T) {
	text := words("a b c d e f g")
	for context, want := range []string{
		"@@ -4,1 +4,1 @@/-d/+x",
		"@@ -3,3 +3,3 @@/ c/-d/+x/ e",
		"@@ -2,5 +2,5 @@/ b/ c/-d/+x/ e/ f",
		"@@ -1,7 +1,7 @@/ a/ b/ c/-d/+x/ e/ f/ g",
		// There are no more lines.
		"@@ -1,7 +1,7 @@/ a/ b/ c/-d/+x/ e/ f/ g",
	} {
		checkFormat(t, text, patch(hunk(3, "d", "x")), context, diffOf(want), api.Fault{})
	}
	for _, c := range []struct {
		h    api.Hunk
		want string
	}{
		{hunk(0, "a", "x"), "@@ -1,3 +1,3 @@/-a/+x/ b/ c"},
		{hunk(0, "", "x"), "@@ -1,2 +1,3 @@/+x/ a/ b"},
		{hunk(1, "b", ""), "@@ -1,4 +1,3 @@/ a/-b/ c/ d"},
		{hunk(6, "g", "x y"), "@@ -5,3 +5,4 @@/ e/ f/-g/+x/+y"},
		{hunk(7, "", "x"), "@@ -6,2 +6,3 @@/ f/ g/+x"},
		{hunk(5, "f", ""), "@@ -4,4 +4,3 @@/ d/ e/-f/ g"},
	} {
		checkFormat(t, text, patch(c.h), 2, diffOf(c.want), api.Fault{})
	}
}

func TestGroups(t *testing.T) {
	for _, c := range []struct {
		context, between int
		together         bool
	}{
		{0, 1, false}, {1, 1, true}, {1, 2, true}, {1, 3, false}, {2, 4, true}, {2, 5, false}, {3, 6, true}, {3, 7, false},
		{50, 100, true}, {50, 101, false}, {api.MaxLines, api.MaxLines - 2, true},
	} {
		text := numbered(c.between + 2)
		second := c.between + 1
		p := patch(api.Hunk{At: 0, Old: text[:1]}, api.Hunk{At: second, Old: text[second:]})
		got, f := Format(text, p, c.context)
		if together := strings.Count(got, "@@ -") == 1; together != c.together || f != (api.Fault{}) {
			t.Errorf("context %d, %d lines between: got %q %v", c.context, c.between, got, f)
		}
	}
	// What counts is the end of the first hunk, and not its beginning.
	checkFormat(t, words("a b c d e"), patch(hunk(0, "a b c", ""), hunk(4, "e", "")), 1,
		diffOf("@@ -1,5 +1,1 @@/-a/-b/-c/ d/-e"), api.Fault{})
	checkFormat(t, words("a b c d e"), patch(hunk(0, "", "x y z"), hunk(2, "c", "")), 1,
		diffOf("@@ -1,4 +1,6 @@/+x/+y/+z/ a/ b/-c/ d"), api.Fault{})
	// Two of three hunks are in one group.
	checkFormat(t, words("a b c d e f g h"), patch(hunk(0, "a", ""), hunk(2, "", "x"), hunk(6, "g", "y")), 1,
		diffOf("@@ -1,3 +1,3 @@/-a/ b/+x/ c/@@ -6,3 +6,3 @@/ f/-g/+y/ h"), api.Fault{})
	checkFormat(t, words("a b c d e f g h"), patch(hunk(0, "a", ""), hunk(4, "", "x"), hunk(6, "g", "y")), 1,
		diffOf("@@ -1,2 +1,1 @@/-a/ b/@@ -4,5 +3,6 @@/ d/+x/ e/ f/-g/+y/ h"), api.Fault{})
}

func TestFormatOfUnusualLines(t *testing.T) {
	text := []string{"", "-", "+x", "@@ -1,1 +1,1 @@", " ", "\r", "\x00\xff"}
	p := patch(api.Hunk{At: 1, Old: text[1:2], New: []string{"", "--", "@@"}}, api.Hunk{At: 5, Old: text[5:6]})
	checkFormat(t, text, p, 3, "@@ -1,7 +1,8 @@\n \n--\n+\n+--\n+@@\n +x\n @@ -1,1 +1,1 @@\n  \n-\r\n \x00\xff\n", api.Fault{})
}

func TestFormatOfEmptyPatch(t *testing.T) {
	for _, context := range []int{0, 1, api.MaxLines} {
		checkFormat(t, nil, patch(), context, "", api.Fault{})
		checkFormat(t, repeat(longest, api.MaxLines), patch(), context, "", api.Fault{})
	}
}

func TestFormatFollowsDefinition(t *testing.T) {
	all := samples.Patches(3, 0, 6, samples.Texts(2, "a"), samples.Texts(2, "b"))
	kinds := tally{}
	for _, p := range all {
		for n := range 9 {
			text := repeat("a", n)
			if _, f := textpatch.Apply(p, text); f != (api.Fault{}) {
				continue
			}
			for context := range 4 {
				checkFormat(t, text, p, context, format(text, p, context), api.Fault{})
				kinds["formatted"]++
			}
		}
	}
	kinds.require(t, 10000, "formatted")
}

// randomChange returns a text of long lines, and a patch of it.
func randomChange(random *rand.Rand) ([]string, api.Patch) {
	text := samples.RandomText(random.Intn, random.Intn(api.MaxLines+1), 26)
	p := samples.RandomPatch(random.Intn, text, 2+random.Intn(30), 26)
	width := 1 + random.Intn(api.MaxLine)
	widen := func(text []string) []string {
		var wide []string
		for _, line := range text {
			wide = append(wide, strings.Repeat(line, width))
		}
		return wide
	}
	for i, h := range p.Hunks {
		p.Hunks[i] = api.Hunk{At: h.At, Old: widen(h.Old), New: widen(h.New)}
	}
	return widen(text), p
}

func TestLargeFormatsFollowDefinition(t *testing.T) {
	random := rand.New(rand.NewSource(1))
	kinds := tally{}
	for range 3000 {
		text, p := randomChange(random)
		if _, f := textpatch.Apply(p, text); f != (api.Fault{}) {
			checkFormat(t, text, p, 0, "", f)
			continue
		}
		context := random.Intn(1 + random.Intn(api.MaxLines+1))
		want := format(text, p, context)
		if len(want) > api.MaxBuffer {
			checkFormat(t, text, p, context, "", fault(api.ErrTooLarge, -1))
			kinds["too large"]++
		} else {
			checkFormat(t, text, p, context, want, api.Fault{})
			kinds["formatted"]++
		}
	}
	kinds.require(t, 500, "formatted", "too large")
}

func TestFormatAtLimits(t *testing.T) {
	y := repeat("y", api.MaxLines)
	checkFormat(t, y, patch(api.Hunk{At: 0, Old: y, New: repeat("z", api.MaxLines)}), api.MaxLines,
		"@@ -1,120 +1,120 @@\n"+strings.Repeat("-y\n", 120)+strings.Repeat("+z\n", 120), api.Fault{})
	checkFormat(t, y, patch(hunk(api.MaxLines-1, "y", "z")), 0, "@@ -120,1 +120,1 @@\n-y\n+z\n", api.Fault{})
	checkFormat(t, y[1:], patch(hunk(api.MaxLines-1, "", "z")), 0, "@@ -119,0 +120,1 @@\n+z\n", api.Fault{})
	checkFormat(t, y, patch(hunk(api.MaxLines-1, "y", "")), 0, "@@ -120,1 +119,0 @@\n-y\n", api.Fault{})
}

func TestSizeOfFormat(t *testing.T) {
	const header = "@@ -1,49 +1,50 @@\n"
	rest := api.MaxBuffer - len(header) - 49*(api.MaxLine+2) - 2
	for size := rest - 1; size <= rest+2; size++ {
		text := repeat(longest, 49)
		p := patch(api.Hunk{At: 7, New: []string{longest[:size]}})
		want := header + strings.Repeat(" "+longest+"\n", 7) + "+" + longest[:size] + "\n" + strings.Repeat(" "+longest+"\n", 42)
		if size <= rest {
			checkFormat(t, text, p, api.MaxLines, want, api.Fault{})
		} else {
			checkFormat(t, text, p, api.MaxLines, "", fault(api.ErrTooLarge, -1))
		}
	}
	// Only what is written counts.
	full := repeat(longest, api.MaxLines)
	checkFormat(t, full, patch(hunk(20, longest, "")), 0, "@@ -21,1 +20,0 @@\n-"+longest+"\n", api.Fault{})
	checkFormat(t, full, patch(hunk(20, longest, "")), 50, "", fault(api.ErrTooLarge, -1))
	checkFormat(t, full, patch(api.Hunk{At: 0, Old: full, New: full}), 0, "", fault(api.ErrTooLarge, -1))
	// The headers count, too.
	var p api.Patch
	for at := range api.MaxLines / 2 {
		p.Hunks = append(p.Hunks, api.Hunk{At: 2 * at, Old: []string{longest[:40]}, New: []string{longest[:40]}})
	}
	checkFormat(t, repeat(longest[:40], api.MaxLines), p, 0, "", fault(api.ErrTooLarge, -1))
}

// outside returns numbers that are neither a context nor a reach.
func outside() []int {
	return []int{-1, api.MaxLines + 1, math.MinInt, math.MaxInt, math.MaxInt/2 + 1, -api.MaxLines}
}

func TestContextOutsideRange(t *testing.T) {
	for _, context := range outside() {
		checkFormat(t, words("a"), patch(hunk(0, "a", "b")), context, "", fault(api.ErrRange, -3))
		checkFormat(t, nil, patch(), context, "", fault(api.ErrRange, -3))
	}
}

func TestErrorsOfFormat(t *testing.T) {
	text := words("a b c")
	for _, c := range samples.InvalidPatches() {
		checkFormat(t, text, c.Patch, 1, "", c.Fault)
		checkFormat(t, text, c.Patch, -1, "", c.Fault)
		for _, other := range samples.InvalidTexts() {
			checkFormat(t, other.Text, c.Patch, 1, "", c.Fault)
		}
	}
	for _, c := range samples.InvalidTexts() {
		want := fault(c.Fault.Code, -2)
		checkFormat(t, c.Text, patch(), 1, "", want)
		checkFormat(t, c.Text, patch(hunk(0, "x", "y")), 1, "", want)
		checkFormat(t, c.Text, patch(hunk(0, "a", "b")), -1, "", want)
	}
	conflict := patch(hunk(0, "a", "x"), hunk(2, "x", "y"), hunk(4, "", "x"))
	checkFormat(t, text, conflict, 1, "", fault(api.ErrConflict, 1))
	checkFormat(t, text, conflict, -1, "", fault(api.ErrConflict, 1))
	checkFormat(t, text, patch(hunk(4, "", "x")), 0, "", fault(api.ErrConflict, 0))
	checkFormat(t, text, patch(hunk(2, "c d", "")), 0, "", fault(api.ErrConflict, 0))
	// The changed text is too large, although its diff is not.
	full := repeat(longest, api.MaxLines)
	checkFormat(t, full, patch(hunk(0, "", "x")), 0, "", fault(api.ErrTooLarge, -1))
	checkFormat(t, full, patch(hunk(0, "", "x")), -1, "", fault(api.ErrTooLarge, -1))
	// The context comes before the size of the diff.
	checkFormat(t, full, patch(hunk(20, longest, "")), api.MaxLines+1, "", fault(api.ErrRange, -3))
	checkFormat(t, full, patch(api.Hunk{At: 0, Old: full, New: full}), -1, "", fault(api.ErrRange, -3))
}

// checkStays checks that calls change neither a text nor a patch.
func checkStays(t *testing.T, text []string, p api.Patch, calls func(text []string, p api.Patch)) {
	t.Helper()
	text, p = samples.Spare(text), samples.SparePatch(p)
	beforeText, beforeP := slices.Clone(text[:cap(text)]), samples.WithCapacity(p)
	calls(text, p)
	if after := text[:cap(text)]; !slices.Equal(after, beforeText) {
		t.Errorf("the text became %q", after)
	}
	if after := samples.WithCapacity(p); !samples.EqualPatches(after, beforeP) {
		t.Errorf("the patch became %v", after)
	}
}

func TestArgumentsOfFormatStay(t *testing.T) {
	p := patch(hunk(1, "b", "x y"), hunk(3, "", "z"), hunk(6, "g", ""))
	checkStays(t, words("a b c d e f g h"), p, func(text []string, p api.Patch) {
		for context := range 4 {
			checkFormat(t, text, p, context, format(text, p, context), api.Fault{})
		}
		checkFormat(t, text[:6], p, 1, "", fault(api.ErrConflict, 2))
	})
}
