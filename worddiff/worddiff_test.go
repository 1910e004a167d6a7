package worddiff

import (
	"math/rand"
	"regexp"
	"slices"
	"strings"
	"testing"

	"changeforge/api"
	"changeforge/samples"
)

const longest, tooLong = samples.Longest, samples.TooLong

var fault = samples.Fault

func checkTokens(t *testing.T, line string, want []string, wantFault api.Fault) {
	t.Helper()
	got, gotFault := Tokens(line)
	if !slices.Equal(got, want) || gotFault != wantFault {
		t.Errorf("Tokens(%q): got %q %v, want %q %v", line, got, gotFault, want, wantFault)
	}
}

// A difference is the result of Highlight.
type difference struct {
	deleted, inserted [][2]int
	fault             api.Fault
}

func checkHighlight(t *testing.T, old, newer string, want difference) {
	t.Helper()
	deleted, inserted, f := Highlight(old, newer)
	if !slices.Equal(deleted, want.deleted) || !slices.Equal(inserted, want.inserted) || f != want.fault {
		t.Errorf("Highlight(%q, %q): got %v, want %v", old, newer, difference{deleted, inserted, f}, want)
	}
}

// ranges returns the ranges with the given limits.
func ranges(limits ...int) [][2]int {
	var all [][2]int
	for pair := range slices.Chunk(limits, 2) {
		all = append(all, [2]int(pair))
	}
	return all
}

// checkMarks checks the differences of two lines in which they are marked with brackets, as in "a [b]".
func checkMarks(t *testing.T, old, newer string) {
	t.Helper()
	oldLine, deleted := unmark(old)
	newLine, inserted := unmark(newer)
	checkHighlight(t, oldLine, newLine, difference{deleted: deleted, inserted: inserted})
}

// unmark returns a line without its brackets, and the ranges that they enclose.
func unmark(marked string) (string, [][2]int) {
	line := ""
	var limits []int
	for _, part := range strings.SplitAfter(marked, "") {
		if part == "[" || part == "]" {
			limits = append(limits, len(line))
		} else {
			line += part
		}
	}
	return line, ranges(limits...)
}

// The definition of Tokens, followed by writing a letter for each byte and looking for sequences of equal letters.

const (
	wordBytes  = "abcdefghijklmnopqrstuvwxyzABCDEFGHIJKLMNOPQRSTUVWXYZ0123456789_"
	blankBytes = " \t"
)

var tokenForm = regexp.MustCompile("w+|b+|o")

func letters(line string) string {
	all := ""
	for _, b := range []byte(line) {
		switch {
		case b > 127 || strings.IndexByte(wordBytes, b) >= 0:
			all += "w"
		case strings.IndexByte(blankBytes, b) >= 0:
			all += "b"
		default:
			all += "o"
		}
	}
	return all
}

func tokens(line string) []string {
	var all []string
	for _, place := range tokenForm.FindAllStringIndex(letters(line), -1) {
		all = append(all, line[place[0]:place[1]])
	}
	return all
}

// The definition of Highlight, followed by marking each byte of the tokens that the alignment does not keep.

func highlight(old, newer string) difference {
	a, b := tokens(old), tokens(newer)
	deleted, inserted := "", ""
	for _, step := range samples.Alignment(a, b, samples.LongestCommon) {
		switch step {
		case 'k':
			deleted += strings.Repeat(".", len(a[0]))
			inserted += strings.Repeat(".", len(b[0]))
			a, b = a[1:], b[1:]
		case 'd':
			deleted += strings.Repeat("x", len(a[0]))
			a = a[1:]
		case 'i':
			inserted += strings.Repeat("x", len(b[0]))
			b = b[1:]
		}
	}
	return difference{deleted: marked(deleted), inserted: marked(inserted)}
}

var marks = regexp.MustCompile("x+")

func marked(line string) [][2]int {
	var all [][2]int
	for _, place := range marks.FindAllStringIndex(line, -1) {
		all = append(all, [2]int(place))
	}
	return all
}

// without returns what a line has outside the ranges.
func without(line string, ranges [][2]int) string {
	for _, r := range slices.Backward(ranges) {
		line = line[:r[0]] + line[r[1]:]
	}
	return line
}

// checkDefinitions compares the results for two lines with their definitions.
func checkDefinitions(t *testing.T, old, newer string) {
	t.Helper()
	checkTokens(t, old, tokens(old), api.Fault{})
	checkTokens(t, newer, tokens(newer), api.Fault{})
	want := highlight(old, newer)
	checkHighlight(t, old, newer, want)
	if kept, same := without(old, want.deleted), without(newer, want.inserted); kept != same {
		t.Errorf("%q and %q: %q is kept of the one and %q of the other", old, newer, kept, same)
	}
}

// lineOf returns a line of n parts.
func lineOf(random *rand.Rand, n int, parts []string) string {
	line := ""
	for range n {
		line += parts[random.Intn(len(parts))]
	}
	return line
}

// smallLines returns all lines of at most n of the given parts.
func smallLines(n int, parts ...string) []string {
	var all []string
	for _, text := range samples.Texts(n, parts...) {
		all = append(all, strings.Join(text, ""))
	}
	return all
}

// R8.1

func TestExampleOfTokens(t *testing.T) {
	checkTokens(t, "a1 + b", []string{"a1", " ", "+", " ", "b"}, api.Fault{})
}

func TestTokensValues(t *testing.T) {
	for _, c := range []struct {
		line string
		want []string
	}{
		{"", nil},
		{"a", []string{"a"}},
		{" ", []string{" "}},
		{"+", []string{"+"}},
		{"azAZ09_", []string{"azAZ09_"}},
		{"_x1", []string{"_x1"}},
		{"1x", []string{"1x"}},
		{" \t \t", []string{" \t \t"}},
		{"\tif a  == b {", []string{"\t", "if", " ", "a", "  ", "=", "=", " ", "b", " ", "{"}},
		{"++", []string{"+", "+"}},
		{"+-+", []string{"+", "-", "+"}},
		{"a+b", []string{"a", "+", "b"}},
		{"f(x, y)", []string{"f", "(", "x", ",", " ", "y", ")"}},
		{"a-b.c'd", []string{"a", "-", "b", ".", "c", "'", "d"}},
		{" a ", []string{" ", "a", " "}},
		{"+ +", []string{"+", " ", "+"}},
	} {
		checkTokens(t, c.line, c.want, api.Fault{})
	}
}

func TestBytesBesideLettersAndDigits(t *testing.T) {
	checkTokens(t, "/0", []string{"/", "0"}, api.Fault{})
	checkTokens(t, "9:", []string{"9", ":"}, api.Fault{})
	checkTokens(t, "@A", []string{"@", "A"}, api.Fault{})
	checkTokens(t, "Z[", []string{"Z", "["}, api.Fault{})
	checkTokens(t, "^_`a", []string{"^", "_", "`", "a"}, api.Fault{})
	checkTokens(t, "z{", []string{"z", "{"}, api.Fault{})
	checkTokens(t, "\x7f\x80", []string{"\x7f", "\x80"}, api.Fault{})
}

func TestOnlySpacesAndTabsAreCombined(t *testing.T) {
	checkTokens(t, "\r\r", []string{"\r", "\r"}, api.Fault{})
	checkTokens(t, "\v\v\f\f", []string{"\v", "\v", "\f", "\f"}, api.Fault{})
	checkTokens(t, " \r\t", []string{" ", "\r", "\t"}, api.Fault{})
	checkTokens(t, "\x00\x00", []string{"\x00", "\x00"}, api.Fault{})
	checkTokens(t, "\x7f\x7f", []string{"\x7f", "\x7f"}, api.Fault{})
}

func TestBytesFrom128AreWordBytes(t *testing.T) {
	checkTokens(t, "é ü", []string{"é", " ", "ü"}, api.Fault{})
	checkTokens(t, "naïve_1é", []string{"naïve_1é"}, api.Fault{})
	checkTokens(t, "a€b", []string{"a€b"}, api.Fault{})
	checkTokens(t, "e\u0301x", []string{"e\u0301x"}, api.Fault{})
	// Even where they are spaces, line separators or no text at all.
	checkTokens(t, "a\u00a0b\u2028c\u0085", []string{"a\u00a0b\u2028c\u0085"}, api.Fault{})
	checkTokens(t, "\x80\xff\xfea", []string{"\x80\xff\xfea"}, api.Fault{})
}

func TestPairsOfBytesFollowDefinition(t *testing.T) {
	for a := range 256 {
		for b := range 256 {
			line := string([]byte{byte(a), byte(b)})
			if a == '\n' || b == '\n' {
				checkTokens(t, line, nil, fault(api.ErrMalformed, 0))
			} else {
				checkTokens(t, line, tokens(line), api.Fault{})
			}
		}
	}
}

func TestTokensOfSmallLinesFollowDefinition(t *testing.T) {
	for _, line := range smallLines(5, "a", "7", "_", "\xff", " ", "\t", "+", "\r") {
		checkTokens(t, line, tokens(line), api.Fault{})
	}
}

func TestTokensOfLongLinesFollowDefinition(t *testing.T) {
	random := rand.New(rand.NewSource(1))
	for range 3000 {
		line := make([]byte, random.Intn(api.MaxLine+1))
		for i := range line {
			line[i] = byte('\n' + 1 + random.Intn(256-'\n'-1))
		}
		checkTokens(t, string(line), tokens(string(line)), api.Fault{})
	}
}

func TestTokensAtLimit(t *testing.T) {
	checkTokens(t, longest, []string{longest}, api.Fault{})
	blanks := strings.Repeat("\t ", api.MaxLine/2)
	checkTokens(t, blanks, []string{blanks}, api.Fault{})
	checkTokens(t, strings.Repeat("+", api.MaxLine), samples.Repeat("+", api.MaxLine), api.Fault{})
	checkTokens(t, longest[1:]+"+", []string{longest[1:], "+"}, api.Fault{})
	checkTokens(t, "+"+longest[1:], []string{"+", longest[1:]}, api.Fault{})
	checkTokens(t, strings.Repeat("€", api.MaxLine/3), []string{strings.Repeat("€", api.MaxLine/3)}, api.Fault{})
}

// An invalidLine has the error of lines.Validate with this code.
type invalidLine struct {
	line string
	code int
}

func invalidLines() []invalidLine {
	return []invalidLine{
		{tooLong, api.ErrTooMany},
		{strings.Repeat(" ", api.MaxLine+1), api.ErrTooMany},
		{strings.Repeat("€", api.MaxLine/3+1), api.ErrTooMany},
		{strings.Repeat("+", 1000), api.ErrTooMany},
		{"\n", api.ErrMalformed},
		{"a\n", api.ErrMalformed},
		{"\na", api.ErrMalformed},
		{"a\nb", api.ErrMalformed},
		{longest[1:] + "\n", api.ErrMalformed},
		// The number of bytes is checked first.
		{longest + "\n", api.ErrTooMany},
		{"\n" + longest, api.ErrTooMany},
		{strings.Repeat("\n", 1000), api.ErrTooMany},
	}
}

func TestErrorsOfTokens(t *testing.T) {
	for _, c := range invalidLines() {
		checkTokens(t, c.line, nil, fault(c.code, 0))
	}
}

func TestTokensAreNewMemory(t *testing.T) {
	first, _ := Tokens("a + b")
	second, _ := Tokens("a + b")
	if samples.Shared(first, second) {
		t.Error("the results share memory")
	}
}

// R8.2

func TestExampleOfHighlight(t *testing.T) {
	checkHighlight(t, "a b", "a c", difference{deleted: ranges(2, 3), inserted: ranges(2, 3)})
}

func TestHighlightValues(t *testing.T) {
	for _, c := range [][2]string{
		{"", ""},
		{"a", "a"},
		{"a + b", "a + b"},
		{"[x]", ""},
		{"", "[x]"},
		{"[x]", "[y]"},
		{"a[ b]", "a"},
		{"[b ]a", "a"},
		{"a", "a[ b]"},
		{"a", "[b ]a"},
		{"a [b] c", "a [d] c"},
		{"[a] b [c]", "[d] b [e]"},
		{"f([x], y)", "f([z], y)"},
		{"f([x, ]y)", "f(y)"},
		{"f(x)", "f(x[, y])"},
		{"[old] = [value]", "[new] = [other]"},
		{"if a [=]= b {", "if a [!]= b {"},
		{"x[ = ]1", "x[(]1[)]"},
		{"[a] [b]", "[c] [d]"},
		{"", "[ ]"},
		{"a+[+]", "a+"},
	} {
		checkMarks(t, c[0], c[1])
	}
}

func TestTokensAreComparedAsAWhole(t *testing.T) {
	checkMarks(t, "[number]", "[numbers]")
	checkMarks(t, "[a1]", "[a2]")
	checkMarks(t, "a[ ]b", "a[  ]b")
	checkMarks(t, "[ ]a", "[\t]a")
	checkMarks(t, "[a]", "[A]")
	checkMarks(t, "[ab]", "[a+b]")
	checkMarks(t, "+[+]", "+")
	checkMarks(t, "[\x80]", "[\x81]")
}

func TestRangesCountBytes(t *testing.T) {
	checkHighlight(t, "é b", "é c", difference{deleted: ranges(3, 4), inserted: ranges(3, 4)})
	checkHighlight(t, "é", "è", difference{deleted: ranges(0, 2), inserted: ranges(0, 2)})
	checkHighlight(t, "€ = 1", "$ = 1", difference{deleted: ranges(0, 3), inserted: ranges(0, 1)})
	checkHighlight(t, "\xff+", "+\xff\xff", difference{deleted: ranges(0, 1), inserted: ranges(1, 3)})
}

func TestAdjacentTokensAreCombined(t *testing.T) {
	checkMarks(t, "[a + b]", "")
	checkMarks(t, "", "[a + b]")
	checkMarks(t, "[+++]", "[---]")
	checkMarks(t, "x[(a,b)]", "x[ - 1]")
	checkMarks(t, "x[(a,] [b)]", "x [- 1]")
	checkMarks(t, "([a+b])", "([c*d])")
	checkMarks(t, "[a ]b[ c]", "b")
	checkMarks(t, "+[a]+", "+[b-c]+")
}

func TestRangesOfOneLineOnly(t *testing.T) {
	checkMarks(t, "a, [b, ]c", "a, c")
	checkMarks(t, "a, c", "a, [b, ]c")
	checkMarks(t, "[(]a[)]", "a")
	checkMarks(t, "a", "[(]a[)]")
	checkMarks(t, "[a ]b c", "b c[ d]")
}

func TestTokensAreAlignedAsLines(t *testing.T) {
	// Of the same number of kept tokens, deleting comes before inserting.
	checkMarks(t, "[+]-", "-[+]")
	checkMarks(t, "[+-]*", "*[-+]")
	// Only inserting first keeps two tokens.
	checkMarks(t, "+-[*]", "[-]+-")
	// The first of equal tokens is kept.
	checkMarks(t, "+[+]", "+")
	checkMarks(t, "+", "+[+]")
	checkMarks(t, "a [b a ]c", "a c")
	checkMarks(t, "[x], [y]", "[y], [x]")
}

func TestHighlightOfSmallLinesFollowsDefinition(t *testing.T) {
	for _, all := range [][]string{
		smallLines(6, "+", "-"),
		smallLines(4, "+", "-", "*"),
		smallLines(4, "a", " ", "+"),
		smallLines(3, "a", "b", " ", "+", "é"),
	} {
		for _, old := range all {
			for _, newer := range all {
				checkDefinitions(t, old, newer)
			}
		}
	}
}

func TestHighlightOfLongLinesFollowsDefinition(t *testing.T) {
	random := rand.New(rand.NewSource(2))
	several := 0
	for range 600 {
		kinds := 2 + random.Intn(11)
		parts := []string{"x", " ", "+", "count", "é", "\t", "(", ")", "1", ", ", "_", "return "}[:kinds]
		old := lineOf(random, random.Intn(11), parts)
		newer := lineOf(random, random.Intn(11), parts)
		checkDefinitions(t, old, newer)
		if want := highlight(old, newer); min(len(want.deleted), len(want.inserted)) > 1 {
			several++
		}
	}
	if several < 100 {
		t.Errorf("only %d lines with several ranges on both sides", several)
	}
}

func TestHighlightOfChangedLinesFollowsDefinition(t *testing.T) {
	random := rand.New(rand.NewSource(3))
	for range 600 {
		line := lineOf(random, 30, []string{"x", "yz", " ", "+", "-"})
		low := random.Intn(len(line) + 1)
		high := low + random.Intn(len(line)-low+1)
		changed := line[:low] + lineOf(random, random.Intn(10), []string{"x", " ", "+"}) + line[high:]
		checkDefinitions(t, line, changed)
		checkDefinitions(t, changed, line)
	}
}

func TestHighlightAtLimits(t *testing.T) {
	const n = api.MaxLine
	plus, minus := strings.Repeat("+", n), strings.Repeat("-", n)
	whole := ranges(0, n)
	for _, line := range []string{longest, plus, strings.Repeat(" ", n)} {
		checkHighlight(t, line, line, difference{})
		checkHighlight(t, line, "", difference{deleted: whole})
		checkHighlight(t, "", line, difference{inserted: whole})
		checkHighlight(t, line, minus, difference{deleted: whole, inserted: whole})
		checkHighlight(t, minus, line, difference{deleted: whole, inserted: whole})
	}
	checkHighlight(t, plus, plus[1:], difference{deleted: ranges(n-1, n)})
	checkHighlight(t, plus[1:]+"-", plus, difference{deleted: ranges(n-1, n), inserted: ranges(n-1, n)})
}

func TestManyRanges(t *testing.T) {
	const pairs = api.MaxLine / 2
	var first, second []int
	for i := range pairs {
		first = append(first, 2*i, 2*i+1)
		second = append(second, 2*i+1, 2*i+2)
	}
	kept := strings.Repeat("+", pairs)
	checkHighlight(t, strings.Repeat("-+", pairs), kept, difference{deleted: ranges(first...)})
	checkHighlight(t, kept, strings.Repeat("+-", pairs), difference{inserted: ranges(second...)})
	checkHighlight(t, strings.Repeat("-+", pairs), strings.Repeat("*+", pairs),
		difference{deleted: ranges(first...), inserted: ranges(first...)})
}

func TestErrorsOfHighlight(t *testing.T) {
	for _, c := range invalidLines() {
		for _, valid := range []string{"", "a b", longest} {
			checkHighlight(t, c.line, valid, difference{fault: fault(c.code, 0)})
			checkHighlight(t, valid, c.line, difference{fault: fault(c.code, 1)})
		}
		// The first line counts, whatever the second one is.
		for _, second := range invalidLines() {
			checkHighlight(t, c.line, second.line, difference{fault: fault(c.code, 0)})
		}
	}
}

func TestRangesAreNewMemory(t *testing.T) {
	var lists [][][2]int
	for range 2 {
		deleted, inserted, _ := Highlight("a b, c d", "x b, y d")
		lists = append(lists, deleted, inserted)
	}
	if len(lists[0]) != 2 || len(lists[1]) != 2 {
		t.Fatalf("got %v", lists)
	}
	if samples.Shared(lists...) {
		t.Error("the results share memory")
	}
}
