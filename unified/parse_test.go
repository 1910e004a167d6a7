package unified

import (
	"fmt"
	"math/rand"
	"regexp"
	"slices"
	"strconv"
	"strings"
	"testing"

	"changeforge/api"
	"changeforge/samples"
	"changeforge/textpatch"
)

func checkParse(t *testing.T, diff string, want api.Patch, wantFault api.Fault) {
	t.Helper()
	got, gotFault := Parse(diff)
	if !samples.EqualPatches(got, want) || gotFault != wantFault {
		t.Errorf("Parse(%.300q): got %s %v, want %s %v", diff, short(got), gotFault, short(want), wantFault)
	}
}

// checkLine checks that the line with the given number is the first invalid one.
func checkLine(t *testing.T, diff string, number int) {
	t.Helper()
	checkParse(t, diffOf(diff), api.Patch{}, fault(api.ErrSyntax, number))
	// The lines before it are valid, so without it the diff ends too early, or is complete.
	lines := strings.SplitAfter(diffOf(diff), "\n")
	_, f := Parse(strings.Join(lines[:number], ""))
	if f != (api.Fault{}) && f != fault(api.ErrSyntax, number) {
		t.Errorf("the lines of %q before %d: got %v", diff, number, f)
	}
}

// The definition of Parse, followed with tables of what happens at each index of the old text: a hunk is a sequence of such changes.

// changes are the lines that are deleted at an index of the old text, and those that are inserted before it.
type changes struct {
	deleted  map[int]string
	inserted map[int][]string
}

// followsInsertion tells whether a line is inserted in the hunk to which the deletion of a line would belong.
func (c changes) followsInsertion(at int) bool {
	for {
		if len(c.inserted[at]) > 0 {
			return true
		}
		if _, ok := c.deleted[at-1]; !ok {
			return false
		}
		at--
	}
}

func (c changes) patch() api.Patch {
	var p api.Patch
	for at := 0; at <= 3*api.MaxLines; at++ {
		h := api.Hunk{At: at}
		for line, ok := c.deleted[at]; ok; line, ok = c.deleted[at] {
			h.Old = append(h.Old, line)
			at++
		}
		h.New = c.inserted[at]
		if len(h.Old)+len(h.New) > 0 {
			p.Hunks = append(p.Hunks, h)
		}
	}
	return p
}

const number = "(0|[1-9][0-9]*)"

var headerForm = regexp.MustCompile("^@@ -" + number + "," + number + ` \+` + number + "," + number + " @@$")

// numbersOf returns the numbers S, N, T and M of a header.
func numbersOf(line string) ([]int, bool) {
	parts := headerForm.FindStringSubmatch(line)
	if parts == nil {
		return nil, false
	}
	var numbers []int
	for _, digits := range parts[1:] {
		n, err := strconv.Atoi(digits)
		if err != nil || n > api.MaxLines+1 {
			return nil, false
		}
		numbers = append(numbers, n)
	}
	s, n, t, m := numbers[0], numbers[1], numbers[2], numbers[3]
	return numbers, !(s == 0 && n != 0 || t == 0 && m != 0)
}

// first returns the index of the first line of a group in a text.
func first(start, n int) int {
	if n == 0 {
		return start
	}
	return start - 1
}

// A bodyReader counts the lines of a group.
type bodyReader struct {
	found    changes
	old, new int // the lines of the group so far
	n, m     int // the lines of the group
	start    int // the index of the first line in the old text
}

// read tells whether a line of a group is valid.
func (b *bodyReader) read(line string) bool {
	at := b.start + b.old
	switch {
	case strings.HasPrefix(line, " "):
		b.old++
		b.new++
	case strings.HasPrefix(line, "-"):
		if b.found.followsInsertion(at) {
			return false
		}
		b.found.deleted[at] = line[1:]
		b.old++
	case strings.HasPrefix(line, "+"):
		b.found.inserted[at] = append(b.found.inserted[at], line[1:])
		b.new++
	default:
		return false
	}
	return b.old <= b.n && b.new <= b.m
}

func parse(diff string) (api.Patch, api.Fault) {
	if len(diff) > api.MaxBuffer {
		return api.Patch{}, fault(api.ErrTooMany, -1)
	}
	all := strings.Split(diff, "\n")
	newlines := len(all) - 1
	found := changes{map[int]string{}, map[int][]string{}}
	endOfOld, growth, i := 0, 0, 0
	for i < newlines {
		numbers, ok := numbersOf(all[i])
		if !ok || numbers[1] == 0 && numbers[3] == 0 {
			return api.Patch{}, fault(api.ErrSyntax, i)
		}
		start := first(numbers[0], numbers[1])
		if start < endOfOld || first(numbers[2], numbers[3])-start != growth {
			return api.Patch{}, fault(api.ErrSyntax, i)
		}
		i++
		b := bodyReader{found: found, n: numbers[1], m: numbers[3], start: start}
		for i < newlines && (b.old < b.n || b.new < b.m) {
			if !b.read(all[i]) {
				return api.Patch{}, fault(api.ErrSyntax, i)
			}
			i++
		}
		if b.old < b.n || b.new < b.m {
			return api.Patch{}, fault(api.ErrSyntax, newlines)
		}
		endOfOld, growth = start+b.n, growth+b.m-b.n
	}
	if all[newlines] != "" {
		return api.Patch{}, fault(api.ErrSyntax, newlines)
	}
	p := found.patch()
	if f := textpatch.Validate(p); f != (api.Fault{}) {
		return api.Patch{}, fault(f.Code, -2)
	}
	return p, api.Fault{}
}

func checkParseDefinition(t *testing.T, diff string, kinds tally) {
	t.Helper()
	want, wantFault := parse(diff)
	checkParse(t, diff, want, wantFault)
	switch wantFault.Code {
	case api.OK:
		kinds["parsed"]++
	case api.ErrSyntax:
		kinds["invalid line"]++
	default:
		kinds["invalid patch"]++
	}
}

// R7.3

func TestExamplesOfParse(t *testing.T) {
	checkParse(t, "@@ -1,2 +1,2 @@\n a\n-b\n+c\n", patch(hunk(1, "b", "c")), api.Fault{})
	checkParse(t, "", patch(), api.Fault{})
	checkParse(t, "@@ -1,1 +1,1 @@\n+a\n-b\n", api.Patch{}, fault(api.ErrSyntax, 2))
}

func TestParseValues(t *testing.T) {
	for _, c := range []struct {
		diff string
		want api.Patch
	}{
		{"@@ -0,0 +1,1 @@/+x", patch(hunk(0, "", "x"))},
		{"@@ -5,0 +6,2 @@/+x/+y", patch(hunk(5, "", "x y"))},
		{"@@ -1,1 +0,0 @@/-a", patch(hunk(0, "a", ""))},
		{"@@ -6,1 +5,0 @@/-a", patch(hunk(5, "a", ""))},
		{"@@ -3,2 +3,1 @@/-a/-b/+c", patch(hunk(2, "a b", "c"))},
		{"@@ -3,4 +3,4 @@/ a/-b/+x/ c/-d/+y", patch(hunk(3, "b", "x"), hunk(5, "d", "y"))},
		{"@@ -3,3 +3,3 @@/-b/ a/ c/+x", patch(hunk(2, "b", ""), hunk(5, "", "x"))},
		{"@@ -3,1 +3,3 @@/+x/ a/+y", patch(hunk(2, "", "x"), hunk(3, "", "y"))},
		{"@@ -1,1 +0,0 @@/-a/@@ -4,1 +3,1 @@/-b/+c", patch(hunk(0, "a", ""), hunk(3, "b", "c"))},
		{"@@ -1,2 +1,3 @@/-a/+x/+y/ b/@@ -9,2 +10,1 @@/ c/-d", patch(hunk(0, "a", "x y"), hunk(9, "d", ""))},
		// Old and new lines may be equal.
		{"@@ -1,1 +1,1 @@/-a/+a", patch(hunk(0, "a", "a"))},
		// A group may have more context than Format writes, or nothing but context, and groups may follow each other directly.
		{"@@ -3,2 +3,2 @@/ a/ b", patch()},
		{"@@ -1,1 +1,1 @@/ a/@@ -2,1 +2,1 @@/ b/@@ -3,1 +3,1 @@/ c", patch()},
		{"@@ -1,2 +1,1 @@/-a/ b/@@ -3,2 +2,1 @@/ c/-d", patch(hunk(0, "a", ""), hunk(3, "d", ""))},
		{"@@ -1,2 +1,1 @@/ a/-b/@@ -3,2 +2,1 @@/ c/-d", patch(hunk(1, "b", ""), hunk(3, "d", ""))},
	} {
		checkParse(t, diffOf(c.diff), c.want, api.Fault{})
	}
	checkParse(t, "@@ -1,4 +1,4 @@\n \n--\n-- \n+\n++\n \r\n", patch(api.Hunk{At: 1, Old: []string{"-", "- "}, New: []string{"", "+"}}), api.Fault{})
	checkParse(t, "@@ -1,1 +1,1 @@\n-@@ -1,1 +1,1 @@\n+\x00\xff\n",
		patch(api.Hunk{At: 0, Old: []string{"@@ -1,1 +1,1 @@"}, New: []string{"\x00\xff"}}), api.Fault{})
}

func TestHunksAcrossGroups(t *testing.T) {
	for _, c := range []struct {
		diff string
		want api.Patch
	}{
		{"@@ -1,1 +0,0 @@/-a/@@ -2,1 +0,0 @@/-b", patch(hunk(0, "a b", ""))},
		{"@@ -1,1 +0,0 @@/-a/@@ -2,1 +1,1 @@/-b/+c", patch(hunk(0, "a b", "c"))},
		{"@@ -1,1 +0,0 @@/-a/@@ -1,0 +1,1 @@/+c", patch(hunk(0, "a", "c"))},
		{"@@ -0,0 +1,1 @@/+a/@@ -0,0 +2,1 @@/+b", patch(hunk(0, "", "a b"))},
		{"@@ -1,1 +1,1 @@/-a/+b/@@ -1,0 +2,1 @@/+c", patch(hunk(0, "a", "b c"))},
		{"@@ -4,2 +4,1 @@/ a/-b/@@ -6,1 +5,1 @@/-c/+d/@@ -6,0 +6,2 @@/+e/+f", patch(hunk(4, "b c", "d e f"))},
		{"@@ -4,2 +4,1 @@/ a/-b/@@ -6,2 +5,2 @@/+x/ c/-d", patch(hunk(4, "b", "x"), hunk(6, "d", ""))},
		// A line that no group has lies between.
		{"@@ -1,1 +0,0 @@/-a/@@ -3,1 +1,0 @@/-b", patch(hunk(0, "a", ""), hunk(2, "b", ""))},
		{"@@ -0,0 +1,1 @@/+a/@@ -1,0 +3,1 @@/+b", patch(hunk(0, "", "a"), hunk(1, "", "b"))},
		{"@@ -1,1 +1,1 @@/-a/+b/@@ -3,1 +3,1 @@/-c/+d", patch(hunk(0, "a", "b"), hunk(2, "c", "d"))},
		// So does one that a group has.
		{"@@ -0,0 +1,1 @@/+a/@@ -1,1 +2,2 @@/ x/+b", patch(hunk(0, "", "a"), hunk(1, "", "b"))},
		{"@@ -1,2 +1,2 @@/-a/+b/ x/@@ -3,1 +3,1 @@/-c/+d", patch(hunk(0, "a", "b"), hunk(2, "c", "d"))},
		{"@@ -1,1 +1,1 @@/-a/+b/@@ -2,1 +2,1 @@/ x/@@ -3,1 +3,1 @@/-c/+d", patch(hunk(0, "a", "b"), hunk(2, "c", "d"))},
	} {
		checkParse(t, diffOf(c.diff), c.want, api.Fault{})
	}
	// A deletion does not follow an insertion in a hunk.
	checkLine(t, "@@ -0,0 +1,1 @@/+a/@@ -1,1 +1,0 @@/-b", 3)
	checkLine(t, "@@ -1,1 +1,1 @@/-a/+b/@@ -2,1 +2,1 @@/-c/+d", 4)
	checkLine(t, "@@ -1,0 +2,1 @@/+a/@@ -1,0 +3,1 @@/+a/@@ -2,1 +3,0 @@/-b", 5)
}

func TestFormattedPatchesAreParsed(t *testing.T) {
	random := rand.New(rand.NewSource(2))
	kinds := tally{}
	for range 3000 {
		text, p := randomChange(random)
		for _, context := range []int{0, 1, 2, 3, random.Intn(api.MaxLines + 1)} {
			diff, f := Format(text, p, context)
			if f == (api.Fault{}) {
				checkParse(t, diff, p, api.Fault{})
				kinds["parsed"]++
			}
		}
	}
	kinds.require(t, 3000, "parsed")
}

func TestInvalidHeaders(t *testing.T) {
	for _, line := range []string{
		"", " ", "@", "@@", "@@ @@", "@@ - @@", "@@ -@@", "@@ - + @@", "@@ -, +, @@", "@@ -1,1 @@", "@@ -1,1 +1 @@", "@@ -1 +1,1 @@",
		"@@ -1,1,1 +1,1 @@", "@@ -1,1 +1,1,1 @@", "@@ -1,1 +1,1 +1,1 @@", "@@ -1,1 +1,1", "@@ -1,1 +1,1 @", "-1,1 +1,1 @@", "1,1 +1,1 @@",
		"@ -1,1 +1,1 @@", "@@ 1,1 +1,1 @@", "@@ -1,1 1,1 @@", "@@ +1,1 -1,1 @@", "@@-1,1 +1,1 @@", "@@ -1,1+1,1 @@", "@@ -1,1 +1,1@@",
		" @@ -1,1 +1,1 @@", "@@ -1,1 +1,1 @@ ", "@@ -1,1 +1,1 @@ f", "@@  -1,1 +1,1 @@", "@@ -1,1  +1,1 @@", "@@ -1,1 +1,1  @@",
		"@@ - 1,1 +1,1 @@", "@@ -1, 1 +1,1 @@", "@@ -1 ,1 +1,1 @@", "@@ -1,1 +1,1 @@\r", "@@ -1,1\t+1,1 @@", "@@@ -1,1 +1,1 @@",
		// Numbers.
		"@@ -,1 +1,1 @@", "@@ -1, +1,1 @@", "@@ -1,1 +,1 @@", "@@ -1,1 +1, @@", "@@ -01,1 +1,1 @@", "@@ -1,01 +1,1 @@",
		"@@ -1,1 +01,1 @@", "@@ -1,1 +1,01 @@", "@@ -00,0 +1,1 @@", "@@ -0,00 +1,1 @@", "@@ -+1,1 +1,1 @@", "@@ -1,+1 +1,1 @@",
		"@@ -1,1 ++1,1 @@", "@@ -1,1 +1,+1 @@", "@@ --1,1 +1,1 @@", "@@ -1,-1 +1,1 @@", "@@ -1,1 +-1,1 @@", "@@ -1,1 +1,-1 @@",
		"@@ --0,0 +1,1 @@", "@@ -0,-0 +1,1 @@", "@@ -0x1,1 +1,1 @@", "@@ -1_1,1 +11,1 @@", "@@ -a,1 +1,1 @@", "@@ -1,1 +1,1a @@",
		"@@ -1.0,1 +1,1 @@", "@@ -1e0,1 +1,1 @@", "@@ -\u0661,1 +1,1 @@",
		// Numbers that are too large.
		"@@ -122,1 +122,1 @@", "@@ -122,0 +123,1 @@", "@@ -1,122 +1,1 @@", "@@ -1,1 +1,122 @@", "@@ -121,0 +122,1 @@",
		"@@ -999,1 +999,1 @@", "@@ -1,1 +1,9223372036854775807 @@", "@@ -9223372036854775807,9223372036854775807 +1,1 @@",
		"@@ -18446744073709551617,1 +1,1 @@", "@@ -1,18446744073709551617 +1,1 @@", "@@ -1,1 +1,99999999999999999999999999999999 @@",
		// A line before the first one.
		"@@ -0,1 +1,1 @@", "@@ -0,1 +0,1 @@", "@@ -1,1 +0,1 @@", "@@ -0,1 +0,0 @@", "@@ -0,0 +0,1 @@", "@@ -0,2 +0,3 @@",
		// No lines.
		"@@ -0,0 +0,0 @@", "@@ -1,0 +1,0 @@", "@@ -7,0 +7,0 @@",
		// Lines.
		" a", "-a", "+a", "a",
	} {
		checkParse(t, line+"\n a\n", api.Patch{}, fault(api.ErrSyntax, 0))
		checkParse(t, line+"\n", api.Patch{}, fault(api.ErrSyntax, 0))
		checkParse(t, "@@ -1,2 +1,1 @@\n a\n-b\n"+line+"\n-c\n", api.Patch{}, fault(api.ErrSyntax, 3))
	}
}

func TestPositionsOfGroups(t *testing.T) {
	// The first group is at the same place in both texts.
	checkLine(t, "@@ -1,1 +2,1 @@/-a/+b", 0)
	checkLine(t, "@@ -2,1 +1,1 @@/-a/+b", 0)
	checkLine(t, "@@ -1,1 +1,0 @@/-a", 0)
	checkLine(t, "@@ -2,1 +0,0 @@/-a", 0)
	checkLine(t, "@@ -0,0 +2,1 @@/+a", 0)
	checkLine(t, "@@ -1,0 +1,1 @@/+a", 0)
	for _, c := range []struct {
		first  string
		valid  []string
		others []string
	}{
		// The first group inserts two lines.
		{"@@ -3,1 +3,3 @@/ a/+b/+c", []string{"4,1 +6,1", "5,1 +7,1", "3,0 +6,1", "4,0 +7,1", "4,1 +5,0", "20,2 +22,3"},
			[]string{"3,1 +5,1", "2,0 +5,1", "1,1 +1,1", "0,0 +3,1", "3,1 +4,0", "4,1 +4,1", "4,1 +5,1", "4,1 +7,1", "3,0 +5,1", "3,0 +7,1", "4,1 +6,0", "4,1 +4,0"}},
		// It deletes two lines.
		{"@@ -3,3 +3,1 @@/ a/-b/-c", []string{"6,1 +4,1", "7,1 +5,1", "5,0 +4,1", "6,0 +5,1", "6,1 +3,0", "20,2 +18,3"},
			[]string{"5,1 +3,1", "4,0 +3,1", "5,1 +2,0", "3,3 +1,1", "6,1 +6,1", "6,1 +5,1", "6,1 +3,1", "5,0 +5,1", "5,0 +3,1", "6,1 +4,0", "6,1 +2,0"}},
		// It has no old line, or no new line.
		{"@@ -3,0 +4,1 @@/+a", []string{"4,1 +5,1", "3,0 +5,1", "4,1 +4,0"}, []string{"3,1 +4,1", "2,0 +4,1", "3,1 +3,0", "4,1 +4,1", "3,0 +4,1"}},
		{"@@ -3,1 +2,0 @@/-a", []string{"4,1 +3,1", "3,0 +3,1", "4,1 +2,0"}, []string{"3,1 +2,1", "2,0 +2,1", "3,1 +1,0", "4,1 +4,1", "3,0 +4,1"}},
	} {
		for _, header := range c.valid {
			// The group is incomplete, but its header is valid.
			checkLine(t, c.first+"/@@ -"+header+" @@", strings.Count(c.first, "/")+2)
		}
		for _, header := range c.others {
			checkLine(t, c.first+"/@@ -"+header+" @@", strings.Count(c.first, "/")+1)
		}
	}
	// All preceding groups count.
	three := "@@ -1,1 +1,2 @@/-a/+b/+c/@@ -5,0 +7,2 @@/+d/+e/@@ -9,2 +12,1 @@/ f/-g/@@ -"
	checkParse(t, diffOf(three+"11,1 +12,0 @@/-h"), patch(hunk(0, "a", "b c"), hunk(5, "", "d e"), hunk(9, "g h", "")), api.Fault{})
	checkLine(t, three+"11,1 +11,0 @@/-h", 10)
	checkLine(t, three+"10,1 +11,0 @@/-h", 10)
	checkLine(t, three+"1,1 +2,0 @@/-h", 10)
}

func TestInvalidLinesOfGroups(t *testing.T) {
	for _, line := range []string{"", "a", "@", "@@ -1,1 +1,1 @@", "\t", "\r", "\x00", "*a", "a -", "\u2212a", "\u00a0a", "\\ No newline at end of file"} {
		checkLine(t, "@@ -1,2 +1,2 @@/"+line+"/ a/ b", 1)
		checkLine(t, "@@ -1,2 +1,2 @@/ a/"+line+"/ b", 2)
		checkLine(t, "@@ -1,1 +1,1 @@/ a/@@ -3,2 +3,2 @@/-b/+c/"+line, 5)
	}
	// A deletion does not follow an insertion in a hunk.
	checkLine(t, "@@ -1,1 +1,1 @@/+a/-b", 2)
	checkLine(t, "@@ -1,3 +1,3 @@/-a/+b/-c/+d", 3)
	checkLine(t, "@@ -1,2 +1,3 @@/ a/+b/+c/-d", 4)
	checkParse(t, diffOf("@@ -1,3 +1,3 @@/-a/+b/ x/-c/+d"), patch(hunk(0, "a", "b"), hunk(2, "c", "d")), api.Fault{})
}

func TestMoreLinesThanStated(t *testing.T) {
	for _, c := range []struct {
		diff   string
		number int
	}{
		{"@@ -1,1 +1,1 @@/-a/-b/+c", 2},
		{"@@ -1,1 +1,1 @@/-a/ b", 2},
		{"@@ -1,2 +1,1 @@/+a/+b/ c", 2},
		{"@@ -1,2 +1,1 @@/+a/ b", 2},
		{"@@ -1,2 +1,1 @@/ a/ b", 2},
		{"@@ -1,2 +1,1 @@/ a/+b", 2},
		{"@@ -1,0 +2,1 @@/-a", 1},
		{"@@ -1,0 +2,1 @@/ a", 1},
		{"@@ -1,1 +0,0 @@/+a", 1},
		{"@@ -1,1 +0,0 @@/ a", 1},
		// Where the group is complete, a header is expected.
		{"@@ -1,1 +1,1 @@/ a/ b", 2},
		{"@@ -1,1 +1,1 @@/-a/+b/+c", 3},
		{"@@ -1,1 +1,1 @@/-a/+b/-c", 3},
		{"@@ -1,1 +1,1 @@/-a/+b//@@ -4,1 +4,1 @@/ c", 3},
		{"@@ -1,1 +1,1 @@/-a/+b/", 3},
	} {
		checkLine(t, c.diff, c.number)
	}
}

func TestIncompleteDiffs(t *testing.T) {
	const whole = "@@ -1,2 +1,2 @@\n a\n-b\n+c\n@@ -5,1 +5,1 @@\n-d\n+e\n"
	var ends []int
	for n := range len(whole) + 1 {
		begin := whole[:n]
		got, f := Parse(begin)
		if f == (api.Fault{}) {
			ends = append(ends, n)
			continue
		}
		if want := fault(api.ErrSyntax, strings.Count(begin, "\n")); len(got.Hunks) > 0 || f != want {
			t.Errorf("Parse(%q): got %v %v, want %v", begin, got, f, want)
		}
	}
	if want := []int{0, strings.LastIndex(whole, "@@ -"), len(whole)}; !slices.Equal(ends, want) {
		t.Errorf("the diff is complete after %v bytes, want %v", ends, want)
	}
	for _, c := range []struct {
		diff   string
		number int
	}{
		// The last line is not terminated, whether or not it is valid.
		{"x", 0}, {" ", 0}, {"@@ -1,1 +1,1 @@", 0}, {"@@ -1,1 +1,1 @@\n a", 1}, {"@@ -1,1 +1,1 @@\n-a\n+b", 2},
		{"@@ -1,1 +1,1 @@\n a\n ", 2}, {"@@ -1,1 +1,1 @@\n a\n@@ -2,1 +2,1 @@", 2}, {"@@ -1,1 +1,1 @@\n a\n@@ -1,1", 2},
		// The last group is incomplete.
		{"@@ -1,1 +1,1 @@\n", 1}, {"@@ -1,1 +1,1 @@\n-a\n", 2}, {"@@ -1,1 +1,1 @@\n+a\n", 2}, {"@@ -0,0 +1,2 @@\n+a\n", 2},
		// An invalid line comes first.
		{"\n", 0}, {"x\n a", 0}, {"@@ -1,2 +1,2 @@\na\n", 1}, {"@@ -1,2 +1,2 @@\n a\nb\n c", 2}, {"@@ -1,1 +1,1 @@\n a\n b\n@@", 2},
	} {
		checkParse(t, c.diff, api.Patch{}, fault(api.ErrSyntax, c.number))
	}
}

func TestLongDiffs(t *testing.T) {
	// A line of the context belongs to no patch, so it may have any length.
	header := "@@ -1,2 +1,1 @@\n-b\n "
	full := header + strings.Repeat("x", api.MaxBuffer-len(header)-1) + "\n"
	checkParse(t, full, patch(hunk(0, "b", "")), api.Fault{})
	for _, diff := range []string{full + " ", full[1:] + "xx", strings.Repeat("\n", api.MaxBuffer+1), strings.Repeat("x", 2*api.MaxBuffer), " " + full} {
		checkParse(t, diff, api.Patch{}, fault(api.ErrTooMany, -1))
	}
	checkParse(t, full[1:]+"x", api.Patch{}, fault(api.ErrSyntax, 0))
	checkParse(t, full[:len(full)-1]+"x", api.Patch{}, fault(api.ErrSyntax, 2))
	checkParse(t, strings.Repeat("x", api.MaxBuffer), api.Patch{}, fault(api.ErrSyntax, 0))
}

// alternating returns lines of a group: n deletions and n insertions, each behind a line of the context.
func alternating(n int) string {
	return strings.Repeat(" a\n-b\n a\n+c\n", n)
}

func TestParseAtLimits(t *testing.T) {
	const most = api.MaxLines + 1
	y, z := strings.Repeat("-y\n", most), strings.Repeat("+z\n", most)
	old, inserted := repeat("y", api.MaxLines), repeat("z", api.MaxLines)
	checkParse(t, "@@ -1,120 +1,120 @@\n"+y[3:]+z[3:], patch(api.Hunk{At: 0, Old: old, New: inserted}), api.Fault{})
	checkParse(t, "@@ -1,121 +1,121 @@\n"+strings.Repeat(" a\n", most), patch(), api.Fault{})
	checkParse(t, "@@ -121,121 +121,121 @@\n"+strings.Repeat(" a\n", most), patch(), api.Fault{})
	checkParse(t, "@@ -121,1 +121,1 @@\n a\n", patch(), api.Fault{})
	checkParse(t, "@@ -120,0 +121,1 @@\n+z\n", patch(hunk(api.MaxLines, "", "z")), api.Fault{})
	checkParse(t, "@@ -120,1 +119,0 @@\n-y\n", patch(hunk(api.MaxLines-1, "y", "")), api.Fault{})
	// The patch is not valid.
	checkParse(t, "@@ -121,1 +121,1 @@\n-y\n+z\n", api.Patch{}, fault(api.ErrRange, -2))
	checkParse(t, "@@ -121,1 +120,0 @@\n-y\n", api.Patch{}, fault(api.ErrRange, -2))
	checkParse(t, "@@ -121,1 +121,2 @@\n a\n+z\n", api.Patch{}, fault(api.ErrRange, -2))
	checkParse(t, "@@ -2,120 +1,0 @@\n"+y[3:], api.Patch{}, fault(api.ErrRange, -2))
	checkParse(t, "@@ -1,121 +0,0 @@\n"+y, api.Patch{}, fault(api.ErrTooMany, -2))
	checkParse(t, "@@ -0,0 +1,121 @@\n"+z, api.Patch{}, fault(api.ErrTooMany, -2))
	checkParse(t, "@@ -0,0 +1,120 @@\n"+z[3:]+"@@ -0,0 +121,1 @@\n+z\n", api.Patch{}, fault(api.ErrTooMany, -2))
	checkParse(t, "@@ -1,1 +1,1 @@\n-"+longest+"\n+"+longest+"\n",
		patch(api.Hunk{At: 0, Old: []string{longest}, New: []string{longest}}), api.Fault{})
	checkParse(t, "@@ -1,1 +0,0 @@\n-"+tooLong+"\n", api.Patch{}, fault(api.ErrTooMany, -2))
	checkParse(t, "@@ -0,0 +1,1 @@\n+"+tooLong+"\n", api.Patch{}, fault(api.ErrTooMany, -2))
	checkParse(t, "@@ -1,2 +1,2 @@\n "+tooLong+"\n-a\n+b\n", patch(hunk(1, "a", "b")), api.Fault{})
	// With one hunk less than too many, the first one behind the last line of a text is found.
	two := "@@ -1,120 +1,120 @@\n" + alternating(40) + "@@ -121,%d +121,%d @@\n"
	checkParse(t, fmt.Sprintf(two, 75, 75)+alternating(25), api.Patch{}, fault(api.ErrRange, -2))
	checkParse(t, fmt.Sprintf(two, 76, 77)+alternating(25)+" a\n+c\n", api.Patch{}, fault(api.ErrTooMany, -2))
	// An invalid line comes before the errors of the patch.
	checkParse(t, "@@ -1,1 +0,0 @@\n-"+tooLong+"\nx\n", api.Patch{}, fault(api.ErrSyntax, 2))
	checkParse(t, "@@ -1,1 +0,0 @@\n-"+tooLong+"\n@@ -2,1 +1,1 @@\n a", api.Patch{}, fault(api.ErrSyntax, 3))
	checkParse(t, "@@ -121,1 +120,0 @@\n-y\n ", api.Patch{}, fault(api.ErrSyntax, 2))
}

func TestSmallDiffsFollowDefinition(t *testing.T) {
	kinds := tally{}
	bodies := samples.Texts(4, " ", "-a", "+b")
	for n := range 256 {
		header := fmt.Sprintf("@@ -%d,%d +%d,%d @@", n/64, n/16%4, n/4%4, n%4)
		for _, body := range bodies {
			checkParseDefinition(t, diffOf(strings.Join(append([]string{header}, body...), "/")), kinds)
		}
	}
	kinds.require(t, 100, "parsed", "invalid line")
}

// smallGroup returns a group of a few lines whose header mostly states how many they are.
func smallGroup(random *rand.Rand, start, growth int) (group string, n, m int) {
	var body string
	for range 1 + random.Intn(3) {
		mark := " -+"[random.Intn(3)]
		n += strings.Count(" -", string(mark))
		m += strings.Count(" +", string(mark))
		body += string(mark) + "a\n"
	}
	numbers := []int{start, n, start + growth, m}
	if n > 0 {
		numbers[0]++
	}
	if m > 0 {
		numbers[2]++
	}
	if random.Intn(20) == 0 {
		numbers[random.Intn(4)] += random.Intn(3) - 1
	}
	return fmt.Sprintf("@@ -%d,%d +%d,%d @@\n", numbers[0], numbers[1], numbers[2], numbers[3]) + body, n, m
}

func TestSeveralGroupsFollowDefinition(t *testing.T) {
	random := rand.New(rand.NewSource(3))
	kinds := tally{}
	for range 50000 {
		var diff string
		start, growth := 0, 0
		for range 1 + random.Intn(4) {
			start += random.Intn(2)
			group, n, m := smallGroup(random, start, growth)
			diff += group
			start, growth = start+n, growth+m-n
		}
		checkParseDefinition(t, diff, kinds)
		if p, f := parse(diff); f == (api.Fault{}) && len(p.Hunks) < strings.Count(diff, "@@\n-")+strings.Count(diff, "@@\n+") {
			kinds["hunk across groups"]++
		}
	}
	kinds.require(t, 5000, "parsed", "invalid line")
	kinds.require(t, 500, "hunk across groups")
}

// damaged returns a diff with some bytes or lines changed.
func damaged(random *rand.Rand, diff string) string {
	lines := strings.SplitAfter(diff, "\n")
	i, j := random.Intn(len(lines)), random.Intn(len(lines))
	switch random.Intn(5) {
	case 0:
		lines = slices.Delete(lines, i, i+1)
	case 1:
		lines = slices.Insert(lines, i, lines[j])
	case 2:
		lines[i], lines[j] = lines[j], lines[i]
	default:
		const signs = "@@  --++,\n0123456789a"
		at := random.Intn(len(diff) + 1)
		to := min(len(diff), at+random.Intn(2))
		from := random.Intn(len(signs))
		return diff[:at] + signs[from:from+random.Intn(2)] + diff[to:]
	}
	return strings.Join(lines, "")
}

func TestDamagedDiffsFollowDefinition(t *testing.T) {
	random := rand.New(rand.NewSource(4))
	kinds := tally{}
	for range 5000 {
		text, p := randomChange(random)
		diff, _ := Format(text, p, random.Intn(5))
		for range 5 {
			diff = damaged(random, diff)
			checkParseDefinition(t, diff, kinds)
		}
	}
	kinds.require(t, 500, "parsed", "invalid line")
	kinds.require(t, 10, "invalid patch")
}

func TestParsedPatchesAreNewMemory(t *testing.T) {
	var hunks [][]api.Hunk
	var lists [][]string
	for range 2 {
		for _, diff := range []string{
			"@@ -1,2 +1,2 @@/-a/-b/+c/+d/@@ -5,1 +5,3 @@/-a/+e/+f/+g", "@@ -1,2 +1,2 @@/-a/-b/+c/+d", "@@ -1,1 +1,3 @@/+e/ a/+f",
		} {
			p, _ := Parse(diffOf(diff))
			hunks = append(hunks, p.Hunks)
			for _, h := range p.Hunks {
				lists = append(lists, h.Old, h.New)
			}
		}
	}
	if len(lists) != 20 {
		t.Fatalf("%d lists to compare", len(lists))
	}
	if samples.Shared(hunks...) || samples.Shared(lists...) {
		t.Error("the results share memory with each other")
	}
}
