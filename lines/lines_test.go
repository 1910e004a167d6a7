package lines

import (
	"math/rand"
	"slices"
	"strings"
	"testing"

	"changeforge/api"
	"changeforge/samples"
)

const longest, tooLong, newLine = samples.Longest, samples.TooLong, samples.NewLine

var fault, repeat = samples.Fault, samples.Repeat

func checkValidate(t *testing.T, text []string, want api.Fault) {
	t.Helper()
	if got := Validate(text); got != want {
		t.Errorf("Validate(%.60q): got %v, want %v", text, got, want)
	}
}

func checkSplit(t *testing.T, text string, want []string, wantFault api.Fault) {
	t.Helper()
	got, gotFault := Split(text)
	if !slices.Equal(got, want) || gotFault != wantFault {
		t.Errorf("Split(%.60q): got %q %v, want %q %v", text, got, gotFault, want, wantFault)
	}
}

func checkJoin(t *testing.T, text []string, want string, wantFault api.Fault) {
	t.Helper()
	got, gotFault := Join(text)
	if got != want || gotFault != wantFault {
		t.Errorf("Join(%.60q): got %q %v, want %q %v", text, got, gotFault, want, wantFault)
	}
}

func checkCommon(t *testing.T, a, b []string, prefix, suffix int, wantFault api.Fault) {
	t.Helper()
	p, s, f := Common(a, b)
	if p != prefix || s != suffix || f != wantFault {
		t.Errorf("Common(%.60q, %.60q): got %d %d %v, want %d %d %v", a, b, p, s, f, prefix, suffix, wantFault)
	}
}

// unchanged calls f with a part of the memory and reports whether f left the memory alone, spare capacity included.
func unchanged(t *testing.T, f func(text []string)) {
	t.Helper()
	memory := []string{"a", "b", "spare", "capacity"}
	before := slices.Clone(memory)
	f(memory[:2])
	if !slices.Equal(memory, before) {
		t.Errorf("the argument became %q", memory)
	}
}

// R2.1

func TestValidateAccepts(t *testing.T) {
	for _, text := range [][]string{
		nil, {}, {""}, {"a"}, {"", "", ""}, {"a", "b", "a"},
		{"\r", "\x00", "\t", "\v", "\f", "\u2028", "\u0085", "\\n"},
		{"\xff\xfe", "\x8a\x0b", "ü€"},
		{longest}, {"a", longest, ""},
		repeat("", api.MaxLines), repeat(longest, api.MaxLines),
	} {
		checkValidate(t, text, api.Fault{})
	}
}

func TestValidateCountsLines(t *testing.T) {
	checkValidate(t, repeat("", api.MaxLines+1), fault(api.ErrTooMany, -1))
	checkValidate(t, repeat("", 10*api.MaxLines), fault(api.ErrTooMany, -1))
}

func TestValidateCountsBytes(t *testing.T) {
	checkValidate(t, []string{tooLong}, fault(api.ErrTooMany, 0))
	checkValidate(t, []string{"", longest, tooLong, "b"}, fault(api.ErrTooMany, 2))
	checkValidate(t, append(repeat("", api.MaxLines-1), tooLong), fault(api.ErrTooMany, api.MaxLines-1))
	// 27 runes of three bytes each are 81 bytes, and 40 of two bytes are 80.
	checkValidate(t, []string{"a", strings.Repeat("€", 27)}, fault(api.ErrTooMany, 1))
	checkValidate(t, []string{"a", strings.Repeat("ü", 40)}, api.Fault{})
}

func TestValidateFindsNewlines(t *testing.T) {
	for _, line := range []string{"\n", "a\n", "\na", "a\nb", "\r\n", "\n\n", longest[1:] + "\n"} {
		checkValidate(t, []string{line}, fault(api.ErrMalformed, 0))
		checkValidate(t, []string{"a", "", line, "b"}, fault(api.ErrMalformed, 2))
	}
	checkValidate(t, append(repeat("", api.MaxLines-1), "\n"), fault(api.ErrMalformed, api.MaxLines-1))
}

func TestValidateOrder(t *testing.T) {
	checkValidate(t, repeat(newLine, api.MaxLines+1), fault(api.ErrTooMany, -1))
	checkValidate(t, repeat(tooLong, api.MaxLines+1), fault(api.ErrTooMany, -1))
	checkValidate(t, []string{longest + "\n"}, fault(api.ErrTooMany, 0))
	checkValidate(t, []string{"\n" + longest}, fault(api.ErrTooMany, 0))
	checkValidate(t, []string{"a", newLine, tooLong}, fault(api.ErrMalformed, 1))
	checkValidate(t, []string{"a", tooLong, newLine}, fault(api.ErrTooMany, 1))
	checkValidate(t, []string{newLine, newLine}, fault(api.ErrMalformed, 0))
	checkValidate(t, []string{tooLong, tooLong}, fault(api.ErrTooMany, 0))
}

func TestValidateLeavesArgument(t *testing.T) {
	unchanged(t, func(text []string) { Validate(text) })
}

// R2.2

func TestSplitValues(t *testing.T) {
	for _, c := range []struct {
		text string
		want []string
	}{
		{"", nil},
		{"\n", []string{""}},
		{"\n\n", []string{"", ""}},
		{"a", []string{"a"}},
		{"a\n", []string{"a"}},
		{"\na", []string{"", "a"}},
		{"a\n\nb", []string{"a", "", "b"}},
		{"a\n\nb\n", []string{"a", "", "b"}},
		{"a\n\nb\n\n", []string{"a", "", "b", ""}},
		{"a\r\nb\r", []string{"a\r", "b\r"}},
		{" a \n \n", []string{" a ", " "}},
		{"\x00\n\u2028\u0085\v\f\n\xff\x8a", []string{"\x00", "\u2028\u0085\v\f", "\xff\x8a"}},
	} {
		checkSplit(t, c.text, c.want, api.Fault{})
	}
}

// split is what Split means, byte by byte.
func split(text string) []string {
	var list []string
	line := ""
	for i := 0; i < len(text); i++ {
		if text[i] != 10 {
			line += text[i : i+1]
			continue
		}
		list = append(list, line)
		line = ""
	}
	if line != "" {
		list = append(list, line)
	}
	return list
}

func TestSplitFollowsDefinition(t *testing.T) {
	for _, parts := range samples.Texts(7, "a", "\n", "\r") {
		text := strings.Join(parts, "")
		checkSplit(t, text, split(text), api.Fault{})
	}
}

func TestSplitLimits(t *testing.T) {
	// 50 lines of 80 bytes and one of 45 are 4096 bytes with their newlines.
	full := strings.Repeat(longest+"\n", 50) + longest[:45] + "\n"
	checkSplit(t, full, append(repeat(longest, 50), longest[:45]), api.Fault{})
	checkSplit(t, full[:api.MaxBuffer-1]+"x", append(repeat(longest, 50), longest[:46]), api.Fault{})
	checkSplit(t, full+"x", nil, fault(api.ErrTooLarge, -1))
	checkSplit(t, full+"\n", nil, fault(api.ErrTooLarge, -1))

	checkSplit(t, strings.Repeat("\n", api.MaxLines), repeat("", api.MaxLines), api.Fault{})
	checkSplit(t, strings.Repeat("\n", api.MaxLines-1)+"x", append(repeat("", api.MaxLines-1), "x"), api.Fault{})
	checkSplit(t, strings.Repeat("\n", api.MaxLines)+"x", nil, fault(api.ErrTooMany, -1))
	checkSplit(t, strings.Repeat("\n", api.MaxLines+1), nil, fault(api.ErrTooMany, -1))

	checkSplit(t, longest, []string{longest}, api.Fault{})
	checkSplit(t, longest+"\n"+longest+"\n", []string{longest, longest}, api.Fault{})
	checkSplit(t, tooLong, nil, fault(api.ErrTooMany, 0))
	checkSplit(t, tooLong+"\n", nil, fault(api.ErrTooMany, 0))
	checkSplit(t, "a\n\n"+tooLong+"\nb", nil, fault(api.ErrTooMany, 2))
	checkSplit(t, "a\n\n"+tooLong, nil, fault(api.ErrTooMany, 2))
	checkSplit(t, "a\n"+tooLong+"\n"+tooLong, nil, fault(api.ErrTooMany, 1))
}

func TestSplitOrder(t *testing.T) {
	checkSplit(t, strings.Repeat("x", api.MaxBuffer+1), nil, fault(api.ErrTooLarge, -1))
	checkSplit(t, strings.Repeat("\n", api.MaxBuffer+1), nil, fault(api.ErrTooLarge, -1))
	checkSplit(t, strings.Repeat("x", api.MaxBuffer), nil, fault(api.ErrTooMany, 0))
	checkSplit(t, strings.Repeat("\n", api.MaxBuffer), nil, fault(api.ErrTooMany, -1))
	checkSplit(t, tooLong+strings.Repeat("\n", api.MaxLines+1), nil, fault(api.ErrTooMany, -1))
}

func TestSplitResultIsNew(t *testing.T) {
	first, _ := Split("a\nb\n")
	first[0] = "changed"
	_ = append(first[:1], "changed")
	checkSplit(t, "a\nb\n", []string{"a", "b"}, api.Fault{})
}

// R2.3

func TestJoinValues(t *testing.T) {
	for _, c := range []struct {
		text []string
		want string
	}{
		{nil, ""},
		{[]string{}, ""},
		{[]string{""}, "\n"},
		{[]string{"a"}, "a\n"},
		{[]string{"a", ""}, "a\n\n"},
		{[]string{"", "a"}, "\na\n"},
		{[]string{"a", "\r", "b c"}, "a\n\r\nb c\n"},
		{[]string{"\xff\x8a", "\x00"}, "\xff\x8a\n\x00\n"},
		{repeat("", api.MaxLines), strings.Repeat("\n", api.MaxLines)},
	} {
		checkJoin(t, c.text, c.want, api.Fault{})
	}
}

func TestJoinLimit(t *testing.T) {
	full := append(repeat(longest, 50), longest[:45])
	checkJoin(t, full, strings.Repeat(longest+"\n", 50)+longest[:45]+"\n", api.Fault{})
	checkJoin(t, append(repeat(longest, 50), longest[:46]), "", fault(api.ErrTooLarge, -1))
	checkJoin(t, append(full, ""), "", fault(api.ErrTooLarge, -1))
	checkJoin(t, repeat(longest, api.MaxLines), "", fault(api.ErrTooLarge, -1))
}

func TestJoinRejects(t *testing.T) {
	checkJoin(t, repeat("", api.MaxLines+1), "", fault(api.ErrTooMany, -1))
	checkJoin(t, []string{"a", tooLong}, "", fault(api.ErrTooMany, 1))
	checkJoin(t, []string{"a", "b", newLine}, "", fault(api.ErrMalformed, 2))
	checkJoin(t, []string{newLine, tooLong}, "", fault(api.ErrMalformed, 0))
}

func TestJoinOrder(t *testing.T) {
	checkJoin(t, repeat(longest, api.MaxLines+1), "", fault(api.ErrTooMany, -1))
	checkJoin(t, append(repeat(longest, 60), tooLong), "", fault(api.ErrTooMany, 60))
	checkJoin(t, append(repeat(longest, 60), newLine), "", fault(api.ErrMalformed, 60))
}

func TestJoinReversesSplit(t *testing.T) {
	for _, text := range samples.Texts(5, "", "a", "\r") {
		joined, f := Join(text)
		if f != (api.Fault{}) {
			t.Fatalf("Join(%q): %v", text, f)
		}
		checkSplit(t, joined, text, api.Fault{})
	}
}

func TestJoinLeavesArgument(t *testing.T) {
	unchanged(t, func(text []string) { Join(text) })
}

// R2.4

func TestCommonValues(t *testing.T) {
	for _, c := range []struct {
		a, b           []string
		prefix, suffix int
	}{
		{nil, nil, 0, 0},
		{nil, []string{"x"}, 0, 0},
		{[]string{"x"}, nil, 0, 0},
		{[]string{""}, []string{""}, 1, 0},
		{[]string{"x"}, []string{"y"}, 0, 0},
		{[]string{"x", "y", "x"}, []string{"x", "x"}, 1, 1},
		{[]string{"x", "x"}, []string{"x", "y", "x"}, 1, 1},
		{[]string{"x", "x", "x"}, []string{"x", "x"}, 2, 0},
		{[]string{"x", "x"}, []string{"x", "x", "x"}, 2, 0},
		{[]string{"a", "x"}, []string{"b", "x"}, 0, 1},
		{[]string{"x", "a"}, []string{"x", "b"}, 1, 0},
		{[]string{"x"}, []string{"a", "b", "x"}, 0, 1},
		{[]string{"p", "a", "q", "s"}, []string{"p", "b", "q", "s"}, 1, 2},
		{[]string{"A"}, []string{"a"}, 0, 0},
		{[]string{"a "}, []string{"a"}, 0, 0},
		{repeat(longest, api.MaxLines), repeat(longest, api.MaxLines), api.MaxLines, 0},
		{repeat("x", api.MaxLines), repeat("x", api.MaxLines-1), api.MaxLines - 1, 0},
		{append([]string{"a"}, repeat("x", api.MaxLines-1)...), repeat("x", api.MaxLines), 0, api.MaxLines - 1},
	} {
		checkCommon(t, c.a, c.b, c.prefix, c.suffix, api.Fault{})
	}
}

// longestSharing returns the largest n for which same holds, where n is at most the length of the shorter text.
func longestSharing(a, b []string, same func(n int) bool) int {
	n := min(len(a), len(b))
	for !same(n) {
		n--
	}
	return n
}

func common(a, b []string) (int, int) {
	p := longestSharing(a, b, func(n int) bool { return slices.Equal(a[:n], b[:n]) })
	a, b = a[p:], b[p:]
	s := longestSharing(a, b, func(n int) bool { return slices.Equal(a[len(a)-n:], b[len(b)-n:]) })
	return p, s
}

func TestCommonFollowsDefinition(t *testing.T) {
	all := samples.Texts(5, "x", "y")
	for _, a := range all {
		for _, b := range all {
			p, s := common(a, b)
			checkCommon(t, a, b, p, s, api.Fault{})
		}
	}
}

func TestCommonOfLongTexts(t *testing.T) {
	random := rand.New(rand.NewSource(1))
	for range 500 {
		prefix := repeat("p", random.Intn(40))
		suffix := repeat("s", random.Intn(40))
		a := slices.Concat(prefix, repeat("a", random.Intn(40)), suffix)
		b := slices.Concat(prefix, repeat("b", random.Intn(40)), suffix)
		p, s := common(a, b)
		checkCommon(t, a, b, p, s, api.Fault{})
	}
}

func TestCommonRejects(t *testing.T) {
	valid := []string{"a", "b"}
	many := repeat("", api.MaxLines+1)
	checkCommon(t, many, valid, 0, 0, fault(api.ErrTooMany, -1))
	checkCommon(t, []string{"a", tooLong}, valid, 0, 0, fault(api.ErrTooMany, 1))
	checkCommon(t, []string{"a", "b", newLine}, valid, 0, 0, fault(api.ErrMalformed, 2))
	checkCommon(t, valid, many, 0, 0, fault(api.ErrTooMany, -2))
	checkCommon(t, valid, []string{"a", tooLong}, 0, 0, fault(api.ErrTooMany, -2))
	checkCommon(t, valid, []string{"a", "b", newLine}, 0, 0, fault(api.ErrMalformed, -2))
	checkCommon(t, nil, []string{"\n"}, 0, 0, fault(api.ErrMalformed, -2))
	// Both texts are wrong: the first one counts.
	checkCommon(t, []string{"a", newLine}, many, 0, 0, fault(api.ErrMalformed, 1))
	checkCommon(t, []string{"a", tooLong}, []string{newLine}, 0, 0, fault(api.ErrTooMany, 1))
	checkCommon(t, many, []string{newLine}, 0, 0, fault(api.ErrTooMany, -1))
}

func TestCommonLeavesArguments(t *testing.T) {
	unchanged(t, func(text []string) { Common(text, []string{"a", "c", "b"}) })
	unchanged(t, func(text []string) { Common([]string{"a", "c", "b"}, text) })
}
