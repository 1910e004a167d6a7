package samples

import (
	"slices"
	"testing"

	"changeforge/api"
	"changeforge/lines"
)

func TestLinesAtLimits(t *testing.T) {
	if len(Longest) != api.MaxLine || len(TooLong) != api.MaxLine+1 {
		t.Errorf("the lines have %d and %d bytes", len(Longest), len(TooLong))
	}
}

func TestTexts(t *testing.T) {
	want := [][]string{{}, {"a"}, {"b"}, {"a", "a"}, {"a", "b"}, {"b", "a"}, {"b", "b"}}
	if got := Texts(2, "a", "b"); !slices.EqualFunc(got, want, slices.Equal) {
		t.Errorf("got %q, want %q", got, want)
	}
	if n := len(Texts(3, "a", "b", "c")); n != 1+3+9+27 {
		t.Errorf("got %d texts", n)
	}
}

func TestInvalidTexts(t *testing.T) {
	for _, c := range InvalidTexts() {
		if got := lines.Validate(c.Text); got != c.Fault || got == (api.Fault{}) {
			t.Errorf("%.100q: got %v, want %v", c.Text, got, c.Fault)
		}
	}
}

func TestSpare(t *testing.T) {
	text := Words("a b")
	spare := Spare(text)
	if !slices.Equal(spare, text) || cap(spare) < 4 || !slices.Equal(spare[:4], Words("a b spare capacity")) {
		t.Errorf("got %q with %q in its capacity", spare, spare[:cap(spare)])
	}
	if Shared(text, spare) {
		t.Error("the copy shares memory")
	}
}

func TestShared(t *testing.T) {
	text := Words("a b c d")
	for _, c := range []struct {
		lists [][]string
		want  bool
	}{
		{nil, false},
		{[][]string{text}, false},
		{[][]string{text, nil, {}}, false},
		{[][]string{text, slices.Clone(text)}, false},
		{[][]string{text[:2:2], text[2:]}, false},
		{[][]string{text, text}, true},
		{[][]string{text[:3:3], text[2:]}, true},
		{[][]string{text[:2], text[3:]}, true},
		{[][]string{text[:0], text[3:]}, true},
		{[][]string{Words("x"), text, Words("y"), text[1:2]}, true},
	} {
		if got := Shared(c.lists...); got != c.want {
			t.Errorf("Shared(%q): got %v", c.lists, got)
		}
	}
}
