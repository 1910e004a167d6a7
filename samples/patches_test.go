package samples

import (
	"math/rand"
	"slices"
	"testing"

	"changeforge/api"
	"changeforge/textpatch"
)

func TestEqualPatches(t *testing.T) {
	p := Patch(Hunk(0, "a", "b"), Hunk(3, "", "c"))
	if !EqualPatches(p, Patch(p.Hunks...)) || !EqualPatches(Patch(), api.Patch{}) {
		t.Error("equal patches are said to differ")
	}
	for _, q := range []api.Patch{
		Patch(), Patch(p.Hunks[0]), Patch(p.Hunks[0], Hunk(4, "", "c")),
		Patch(p.Hunks[0], Hunk(3, "c", "")), Patch(p.Hunks[0], Hunk(3, "", "d")), Patch(p.Hunks[0], Hunk(3, "c", "c")),
	} {
		if EqualPatches(p, q) {
			t.Errorf("%v and %v are said to be equal", p, q)
		}
	}
}

func TestInsertions(t *testing.T) {
	if got, want := Insertions(2), Patch(Hunk(0, "", "a"), Hunk(1, "", "a")); !EqualPatches(got, want) {
		t.Errorf("got %v, want %v", got, want)
	}
}

// checkApart checks that no two hunks of a patch touch, and that none is empty.
func checkApart(t *testing.T, p api.Patch) {
	t.Helper()
	for i, h := range p.Hunks {
		if len(h.Old)+len(h.New) == 0 || i > 0 && h.At <= p.Hunks[i-1].At+len(p.Hunks[i-1].Old) {
			t.Errorf("hunk %d of %v is not valid", i, p)
		}
	}
}

func TestPatches(t *testing.T) {
	a, none := [][]string{{"a"}}, [][]string{{}}
	for _, c := range []struct {
		got, want []api.Patch
	}{
		{Patches(0, 0, 9, a, a), []api.Patch{{}}},
		{Patches(1, 2, 3, a, none), []api.Patch{{}, Patch(Hunk(2, "a", "")), Patch(Hunk(3, "a", ""))}},
		{Patches(2, 0, 2, a, none), []api.Patch{{}, Patch(Hunk(0, "a", "")), Patch(Hunk(0, "a", ""), Hunk(2, "a", "")),
			Patch(Hunk(1, "a", "")), Patch(Hunk(2, "a", ""))}},
		{Patches(2, 0, 1, none, a), []api.Patch{{}, Patch(Hunk(0, "", "a")), Patch(Hunk(0, "", "a"), Hunk(1, "", "a")),
			Patch(Hunk(1, "", "a"))}},
		{Patches(1, 0, 9, none, none), []api.Patch{{}}},
	} {
		if !slices.EqualFunc(c.got, c.want, EqualPatches) {
			t.Errorf("got %v, want %v", c.got, c.want)
		}
	}
	for _, p := range SmallPatches(3, 4) {
		checkApart(t, p)
	}
}

func TestInvalidPatches(t *testing.T) {
	for _, c := range InvalidPatches() {
		if got := textpatch.Validate(c.Patch); got != c.Fault || got == (api.Fault{}) {
			t.Errorf("%.100v: got %v, want %v", c.Patch, got, c.Fault)
		}
	}
}

func TestRandomPatch(t *testing.T) {
	random := rand.New(rand.NewSource(1))
	text := RandomText(random.Intn, 40, 3)
	hunks := 0
	for range 100 {
		p := RandomPatch(random.Intn, text, 5, 3)
		checkApart(t, p)
		for _, h := range p.Hunks {
			if !slices.Equal(text[h.At:h.At+len(h.Old)], h.Old) {
				t.Errorf("the old lines of %v are not in %q", h, text)
			}
		}
		hunks += len(p.Hunks)
	}
	if hunks < 200 {
		t.Errorf("only %d hunks", hunks)
	}
}

func TestSparePatch(t *testing.T) {
	p := Patch(Hunk(0, "a", "b c"), Hunk(2, "", "d"))
	spare := SparePatch(p)
	if !EqualPatches(spare, p) {
		t.Errorf("got %v, want %v", spare, p)
	}
	if cap(spare.Hunks) <= len(spare.Hunks) {
		t.Error("the list of hunks has no spare capacity")
	}
	if Shared(p.Hunks, spare.Hunks) {
		t.Error("the copy shares memory")
	}
}

func TestWithCapacity(t *testing.T) {
	p := SparePatch(Patch(Hunk(0, "a", "b c"), Hunk(2, "", "d")))
	before := WithCapacity(p)
	if !EqualPatches(before, WithCapacity(p)) {
		t.Error("a patch is said to differ from itself")
	}
	h := p.Hunks[0]
	for _, change := range []func(){
		func() { p.Hunks[1].At++ },
		func() { p.Hunks[:3][2].At++ },
		func() { h.Old[0] = "x" },
		func() { h.New[:3][2] = "x" },
	} {
		change()
		after := WithCapacity(p)
		if EqualPatches(before, after) {
			t.Errorf("no change between %v and %v", before, after)
		}
		before = after
	}
}
