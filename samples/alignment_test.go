package samples

import "testing"

func TestAlignment(t *testing.T) {
	for _, c := range []struct{ a, b, want string }{
		{"", "", ""},
		{"a b", "a b", "kk"},
		{"a b", "", "dd"},
		{"", "a b", "ii"},
		{"x y", "y z", "dki"},
		{"x", "y", "di"},
		// Deleting x keeps as much as inserting y, and is preferred.
		{"x y", "y x", "dki"},
		// Only inserting y first keeps two lines.
		{"x y z", "y x y", "ikkd"},
	} {
		if got := Alignment(Words(c.a), Words(c.b), LongestCommon); got != c.want {
			t.Errorf("%q and %q: got %q, want %q", c.a, c.b, got, c.want)
		}
	}
}

func TestLongestCommon(t *testing.T) {
	for _, c := range []struct {
		a, b string
		want int
	}{
		{"", "", 0},
		{"a", "", 0},
		{"", "a", 0},
		{"a", "b", 0},
		{"a a", "a", 1},
		{"a b c", "c b a", 1},
		{"x y x y", "y x y x", 3},
		{"a b c a b b a", "c b a b a c", 4},
	} {
		if got := LongestCommon(Words(c.a), Words(c.b)); got != c.want {
			t.Errorf("%q and %q: got %d, want %d", c.a, c.b, got, c.want)
		}
	}
}
