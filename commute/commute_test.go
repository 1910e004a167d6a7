package commute

import (
	"math/rand"
	"slices"
	"testing"

	"changeforge/api"
	"changeforge/samples"
	"changeforge/textpatch"
)

const longest = samples.Longest

var (
	fault, repeat, words = samples.Fault, samples.Repeat, samples.Words
	patch, hunk          = samples.Patch, samples.Hunk
	insertions           = samples.Insertions
)

// An exchange is the result of Commute.
type exchange struct {
	first, second api.Patch
	ok            bool
	fault         api.Fault
}

func checkCommute(t *testing.T, p, q api.Patch, want exchange) {
	t.Helper()
	first, second, ok, f := Commute(p, q)
	got := exchange{first, second, ok, f}
	same := samples.EqualPatches(first, want.first) && samples.EqualPatches(second, want.second)
	if !same || ok != want.ok || f != want.fault {
		t.Errorf("Commute(%.300v, %.300v): got %.300v, want %.300v", p, q, got, want)
	}
}

// A move is the result of Rebase.
type move struct {
	moved api.Patch
	ok    bool
	fault api.Fault
}

func checkRebase(t *testing.T, p, over api.Patch, want move) {
	t.Helper()
	moved, ok, f := Rebase(p, over)
	if !samples.EqualPatches(moved, want.moved) || ok != want.ok || f != want.fault {
		t.Errorf("Rebase(%.300v, %.300v): got %.300v, want %.300v", p, over, move{moved, ok, f}, want)
	}
}

// The definitions, followed by naming each boundary between two lines of a text: a hunk lies on the boundaries from the beginning to the end of its range, and ranges touch where they have a boundary in common.

// manyLines is the length of a text to which all patches can be applied, one after the other.
const manyLines = 3 * api.MaxLines

// boundaries returns, for each boundary of the text after a patch, which one it is in the text before it, or -1 where the patch changes lines.
func boundaries(p api.Patch) []int {
	var names []int
	from := 0
	keep := func(to int) {
		for at := from; at < to; at++ {
			names = append(names, at)
		}
	}
	for _, h := range p.Hunks {
		keep(h.At)
		names = append(names, slices.Repeat([]int{-1}, len(h.New)+1)...)
		from = h.At + len(h.Old) + 1
	}
	keep(manyLines + 1)
	return names
}

// follow moves each hunk of a patch with its first boundary. It returns false if one of the boundaries is not found.
func follow(p api.Patch, find func(boundary int) int) (api.Patch, bool) {
	var moved api.Patch
	for _, h := range p.Hunks {
		for boundary := h.At; boundary <= h.At+len(h.Old); boundary++ {
			if find(boundary) < 0 {
				return api.Patch{}, false
			}
		}
		moved.Hunks = append(moved.Hunks, api.Hunk{At: find(h.At), Old: h.Old, New: h.New})
	}
	return moved, true
}

// fits tells whether the hunks of a patch lie in a text of the largest length.
func fits(p api.Patch) bool {
	return !slices.ContainsFunc(p.Hunks, func(h api.Hunk) bool { return h.At+len(h.Old) > api.MaxLines })
}

func rebase(p, over api.Patch) move {
	after := boundaries(over)
	moved, ok := follow(p, func(boundary int) int { return slices.Index(after, boundary) })
	if !fits(moved) {
		return move{fault: fault(api.ErrTooLarge, -1)}
	}
	return move{moved: moved, ok: ok}
}

func commute(p, q api.Patch) exchange {
	before := boundaries(p)
	first, ok := follow(q, func(boundary int) int { return before[boundary] })
	if !ok {
		return exchange{}
	}
	after := boundaries(first)
	second, ok := follow(p, func(boundary int) int { return slices.Index(after, boundary) })
	if !fits(first) || !fits(second) {
		return exchange{fault: fault(api.ErrTooLarge, -1)}
	}
	return exchange{first: first, second: second, ok: ok}
}

// A tally counts what the results of many calls are, so that a test can require each kind.
type tally struct{ moved, touching, tooLarge int }

func (c *tally) add(ok bool, f api.Fault) {
	switch {
	case ok:
		c.moved++
	case f == api.Fault{}:
		c.touching++
	default:
		c.tooLarge++
	}
}

func (c *tally) require(t *testing.T, moved, touching, tooLarge int) {
	t.Helper()
	if c.moved < moved || c.touching < touching || c.tooLarge < tooLarge {
		t.Errorf("only %d results are moved, %d touching and %d too large", c.moved, c.touching, c.tooLarge)
	}
}

// randomPatches returns two patches of which the second one can be applied to the result of the first one, and whether there is a result.
func randomPatches(random *rand.Rand) (api.Patch, api.Patch, bool) {
	text := samples.RandomText(random.Intn, random.Intn(api.MaxLines+1), 26)
	p := samples.RandomPatch(random.Intn, text, 2+random.Intn(api.MaxLines), 26)
	middle, f := textpatch.Apply(p, text)
	q := samples.RandomPatch(random.Intn, middle, 2+random.Intn(api.MaxLines), 26)
	return p, q, f == api.Fault{}
}

// anywhere returns a patch with a few hunks, which need not apply to any text together with another patch.
func anywhere(random *rand.Rand) api.Patch {
	text := samples.RandomText(random.Intn, api.MaxLines, 26)
	p := samples.RandomPatch(random.Intn, text, 2+random.Intn(50), 26)
	from := random.Intn(len(p.Hunks) + 1)
	to := min(from+1+random.Intn(4), len(p.Hunks))
	return patch(p.Hunks[from:to]...)
}

// halves returns two patches of one text that do not touch, and the patch that does what both of them do.
func halves(random *rand.Rand, text []string) (p, over, both api.Patch) {
	both = samples.RandomPatch(random.Intn, text, 2+random.Intn(12), 26)
	for _, h := range both.Hunks {
		if random.Intn(2) == 0 {
			p.Hunks = append(p.Hunks, h)
		} else {
			over.Hunks = append(over.Hunks, h)
		}
	}
	return p, over, both
}

func checkComposed(t *testing.T, p, q, want api.Patch) {
	t.Helper()
	got, f := textpatch.Compose(p, q)
	if !samples.EqualPatches(got, want) || f != (api.Fault{}) {
		t.Errorf("%v and %v together: got %v %v, want %v", p, q, got, f, want)
	}
}

// R5.1 and R5.2

// checkBoth compares both functions with their definitions.
func checkBoth(t *testing.T, p, q api.Patch, commuted, rebased *tally) {
	t.Helper()
	exchanged := commute(p, q)
	checkCommute(t, p, q, exchanged)
	commuted.add(exchanged.ok, exchanged.fault)
	moved := rebase(p, q)
	checkRebase(t, p, q, moved)
	rebased.add(moved.ok, moved.fault)
}

func TestSmallPatchesFollowDefinition(t *testing.T) {
	// Two hunks of such a patch may leave room for another one between them.
	all := samples.Patches(2, 0, 6, samples.Texts(1, "a"), samples.Texts(2, "b"))
	var commuted, rebased tally
	for _, p := range all {
		for _, q := range all {
			checkBoth(t, p, q, &commuted, &rebased)
		}
	}
	commuted.require(t, 10000, 10000, 0)
	rebased.require(t, 10000, 10000, 0)
}

func TestLargePatchesFollowDefinition(t *testing.T) {
	random := rand.New(rand.NewSource(1))
	var commuted, rebased tally
	for range 10000 {
		checkBoth(t, anywhere(random), anywhere(random), &commuted, &rebased)
	}
	commuted.require(t, 1000, 1000, 500)
	rebased.require(t, 1000, 1000, 500)
}

// R5.1

func TestExampleOfCommute(t *testing.T) {
	checkCommute(t, patch(hunk(0, "", "a")), patch(hunk(5, "x", "")),
		exchange{first: patch(hunk(4, "x", "")), second: patch(hunk(0, "", "a")), ok: true})
}

func TestCommuteValues(t *testing.T) {
	for _, c := range []struct{ p, q, first, second api.Patch }{
		{patch(), patch(), patch(), patch()},
		{patch(hunk(3, "a", "b c")), patch(), patch(), patch(hunk(3, "a", "b c"))},
		{patch(), patch(hunk(3, "a", "b c")), patch(hunk(3, "a", "b c")), patch()},
		// The patch behind the other one moves by its growth, whichever that is.
		{patch(hunk(0, "a", "b c d")), patch(hunk(4, "x", "y")), patch(hunk(2, "x", "y")), patch(hunk(0, "a", "b c d"))},
		{patch(hunk(0, "a b c", "d")), patch(hunk(2, "x", "y")), patch(hunk(4, "x", "y")), patch(hunk(0, "a b c", "d"))},
		{patch(hunk(9, "x", "y")), patch(hunk(0, "a", "b c d")), patch(hunk(0, "a", "b c d")), patch(hunk(11, "x", "y"))},
		{patch(hunk(9, "x", "y")), patch(hunk(0, "a b c", "d")), patch(hunk(0, "a b c", "d")), patch(hunk(7, "x", "y"))},
		{patch(hunk(0, "a", "b")), patch(hunk(2, "c", "d")), patch(hunk(2, "c", "d")), patch(hunk(0, "a", "b"))},
		// The first hunk of q lies between those of p.
		{patch(hunk(0, "a", "b c"), hunk(3, "d", "")), patch(hunk(3, "", "x y"), hunk(6, "e f", "g")),
			patch(hunk(2, "", "x y"), hunk(6, "e f", "g")), patch(hunk(0, "a", "b c"), hunk(5, "d", ""))},
		// The first hunk of p lies between those of q.
		{patch(hunk(4, "", "x y"), hunk(6, "e f", "g")), patch(hunk(0, "a b", "c"), hunk(10, "", "h")),
			patch(hunk(0, "a b", "c"), hunk(9, "", "h")), patch(hunk(3, "", "x y"), hunk(5, "e f", "g"))},
		// The hunks of q lie behind all of p, so the sum of what p grows by counts.
		{patch(hunk(0, "a", ""), hunk(2, "", "b c d"), hunk(4, "e", "f g")), patch(hunk(9, "x", "")),
			patch(hunk(6, "x", "")), patch(hunk(0, "a", ""), hunk(2, "", "b c d"), hunk(4, "e", "f g"))},
		// Hunks may have equal lines on both sides.
		{patch(hunk(0, "a", "a")), patch(hunk(2, "a", "a")), patch(hunk(2, "a", "a")), patch(hunk(0, "a", "a"))},
	} {
		checkCommute(t, c.p, c.q, exchange{first: c.first, second: c.second, ok: true})
		// Exchanging them again restores them.
		checkCommute(t, c.first, c.second, exchange{first: c.p, second: c.q, ok: true})
	}
}

func TestCommuteOfTouchingPatches(t *testing.T) {
	for _, c := range [][2]api.Patch{
		{patch(hunk(0, "", "a")), patch(hunk(0, "", "b"))},
		{patch(hunk(0, "", "a")), patch(hunk(0, "a", ""))},
		{patch(hunk(0, "", "a")), patch(hunk(1, "", "b"))},
		{patch(hunk(0, "", "a")), patch(hunk(1, "x", ""))},
		{patch(hunk(3, "", "a")), patch(hunk(2, "x", ""))},
		{patch(hunk(3, "", "a")), patch(hunk(3, "", "x"))},
		{patch(hunk(3, "x y", "")), patch(hunk(3, "", "x"))},
		{patch(hunk(3, "", "a b c")), patch(hunk(4, "b", ""))},
		{patch(hunk(3, "", "a b c")), patch(hunk(4, "", "b"))},
		{patch(hunk(4, "", "b")), patch(hunk(3, "a b c", ""))},
		{patch(hunk(4, "b", "")), patch(hunk(3, "a c", ""))},
		// The new range of p counts, not the old one.
		{patch(hunk(0, "", "a b c")), patch(hunk(3, "x", ""))},
		// It lies behind what the preceding hunks insert.
		{patch(hunk(0, "", "a b c"), hunk(2, "x", "")), patch(hunk(5, "", "y"))},
		{patch(hunk(0, "a b c", ""), hunk(5, "x", "y")), patch(hunk(2, "y", ""))},
		// One pair of hunks is enough.
		{patch(hunk(0, "a", "b"), hunk(9, "", "c")), patch(hunk(4, "d", "e"), hunk(10, "", "f"))},
		{patch(hunk(9, "", "c"), hunk(20, "a", "b")), patch(hunk(0, "", "f g"), hunk(8, "d", ""), hunk(15, "a", "b"))},
		// No result is too large if there is none.
		{patch(api.Hunk{At: 0, Old: repeat("x", 50)}), patch(hunk(0, "", "y"), hunk(api.MaxLines, "", "y"))},
		{patch(hunk(0, "", "x"), hunk(api.MaxLines, "", "y")), patch(api.Hunk{At: 0, New: repeat("y", 50)})},
	} {
		checkCommute(t, c[0], c[1], exchange{})
	}
}

func TestCommuteOfPatchesThatDoNotQuiteTouch(t *testing.T) {
	for _, c := range []struct{ p, q, first, second api.Patch }{
		{patch(hunk(0, "", "a")), patch(hunk(2, "", "b")), patch(hunk(1, "", "b")), patch(hunk(0, "", "a"))},
		{patch(hunk(3, "", "a")), patch(hunk(1, "x", "")), patch(hunk(1, "x", "")), patch(hunk(2, "", "a"))},
		{patch(hunk(3, "", "a")), patch(hunk(2, "", "x")), patch(hunk(2, "", "x")), patch(hunk(4, "", "a"))},
		{patch(hunk(3, "", "a b c")), patch(hunk(7, "x", "")), patch(hunk(4, "x", "")), patch(hunk(3, "", "a b c"))},
		// The new range of p counts, not the old one.
		{patch(hunk(0, "a b c", "")), patch(hunk(1, "x", "")), patch(hunk(4, "x", "")), patch(hunk(0, "a b c", ""))},
		{patch(hunk(0, "", "a b c"), hunk(2, "x", "")), patch(hunk(4, "", "y")),
			patch(hunk(1, "", "y")), patch(hunk(0, "", "a b c"), hunk(3, "x", ""))},
		{patch(hunk(0, "a b c", ""), hunk(5, "x", "y")), patch(hunk(4, "y", "")),
			patch(hunk(7, "y", "")), patch(hunk(0, "a b c", ""), hunk(5, "x", "y"))},
	} {
		checkCommute(t, c.p, c.q, exchange{first: c.first, second: c.second, ok: true})
	}
}

func TestExchangedPatchesHaveSameEffect(t *testing.T) {
	random := rand.New(rand.NewSource(2))
	exchanged := 0
	for range 5000 {
		p, q, applied := randomPatches(random)
		first, second, ok, _ := Commute(p, q)
		if !applied || !ok {
			continue
		}
		both, f := textpatch.Compose(p, q)
		if f == (api.Fault{}) {
			checkComposed(t, first, second, both)
			exchanged++
		}
		checkCommute(t, first, second, exchange{first: p, second: q, ok: true})
	}
	if exchanged < 500 {
		t.Errorf("only %d patches were exchanged", exchanged)
	}
}

func TestEffectOnText(t *testing.T) {
	text := words("a b c d e f")
	p, q := patch(hunk(0, "a", "x y"), hunk(5, "", "z")), patch(hunk(4, "d e", "w"))
	checkCommute(t, p, q, exchange{})
	q = patch(hunk(3, "c d", "w"), hunk(8, "", "v"))
	first, second, _, _ := Commute(p, q)
	for _, patches := range [][2]api.Patch{{p, q}, {first, second}} {
		middle, f := textpatch.Apply(patches[0], text)
		result, g := textpatch.Apply(patches[1], middle)
		if want := words("x y b w e z f v"); !slices.Equal(result, want) || f != (api.Fault{}) || g != (api.Fault{}) {
			t.Errorf("%v lead to %q %v %v, want %q", patches, result, f, g, want)
		}
	}
}

func TestCommuteAtLimits(t *testing.T) {
	x, y := repeat(longest, api.MaxLines), repeat("y", api.MaxLines)
	last := api.MaxLines - 1
	for _, c := range []struct{ p, q, first, second api.Patch }{
		// q' begins at the limit, or ends there.
		{patch(api.Hunk{At: 0, Old: x[1:]}), patch(hunk(1, "", "b")),
			patch(hunk(api.MaxLines, "", "b")), patch(api.Hunk{At: 0, Old: x[1:]})},
		{patch(api.Hunk{At: 0, Old: x[2:]}), patch(hunk(1, "a", "b")),
			patch(hunk(last, "a", "b")), patch(api.Hunk{At: 0, Old: x[2:]})},
		// So does p'.
		{patch(hunk(last, "", "b")), patch(hunk(0, "", "c")), patch(hunk(0, "", "c")), patch(hunk(api.MaxLines, "", "b"))},
		{patch(hunk(last-1, "a", "b")), patch(hunk(0, "", "c")), patch(hunk(0, "", "c")), patch(hunk(last, "a", "b"))},
		{insertions(api.MaxLines + 1), patch(), patch(), insertions(api.MaxLines + 1)},
		{patch(), insertions(api.MaxLines + 1), insertions(api.MaxLines + 1), patch()},
		// The text between p and q may be longer than a text.
		{patch(api.Hunk{At: api.MaxLines, New: y}), patch(hunk(0, "a", "b")),
			patch(hunk(0, "a", "b")), patch(api.Hunk{At: api.MaxLines, New: y})},
		{patch(api.Hunk{At: 0, New: y}, hunk(1, "a", "b"), hunk(last, "c", "")), patch(),
			patch(), patch(api.Hunk{At: 0, New: y}, hunk(1, "a", "b"), hunk(last, "c", ""))},
		{patch(api.Hunk{At: 2, New: y}, hunk(4, "a", "b")), patch(hunk(0, "z", "")),
			patch(hunk(0, "z", "")), patch(api.Hunk{At: 1, New: y}, hunk(3, "a", "b"))},
	} {
		checkCommute(t, c.p, c.q, exchange{first: c.first, second: c.second, ok: true})
	}
}

func TestCommuteTooLarge(t *testing.T) {
	x, y := repeat(longest, api.MaxLines), repeat("y", api.MaxLines)
	last := api.MaxLines - 1
	for _, c := range [][2]api.Patch{
		// q' begins behind the limit, or ends there.
		{patch(api.Hunk{At: 0, Old: x[1:]}), patch(hunk(2, "", "y"))},
		{patch(api.Hunk{At: 0, Old: x[1:]}), patch(hunk(1, "a", ""))},
		{patch(api.Hunk{At: 0, Old: x}), patch(api.Hunk{At: 1, Old: x[1:]})},
		{patch(hunk(0, "a", "")), patch(hunk(api.MaxLines, "", "y"))},
		{patch(hunk(0, "a", "")), patch(hunk(3, "", "y"), hunk(last, "b", ""))},
		// So does p'.
		{patch(hunk(api.MaxLines, "", "y")), patch(hunk(0, "", "y"))},
		{patch(hunk(last, "a", "")), patch(hunk(0, "", "y"))},
		{patch(hunk(2, "a", "b")), patch(api.Hunk{At: 0, New: y[1:]})},
		{patch(hunk(2, "", "b")), patch(api.Hunk{At: 0, New: y})},
		{patch(hunk(5, "", "y"), hunk(last, "a", "")), patch(hunk(0, "", "y"))},
	} {
		checkCommute(t, c[0], c[1], exchange{fault: fault(api.ErrTooLarge, -1)})
	}
}

// R5.2

func TestExampleOfRebase(t *testing.T) {
	checkRebase(t, patch(hunk(3, "x", "")), patch(hunk(0, "", "a")), move{moved: patch(hunk(4, "x", "")), ok: true})
}

func TestRebaseValues(t *testing.T) {
	for _, c := range []struct{ p, over, want api.Patch }{
		{patch(), patch(), patch()},
		{patch(), patch(hunk(3, "a", "b c")), patch()},
		{patch(hunk(3, "a", "b c")), patch(), patch(hunk(3, "a", "b c"))},
		{patch(hunk(4, "x", "y")), patch(hunk(0, "a", "b c d")), patch(hunk(6, "x", "y"))},
		{patch(hunk(4, "x", "y")), patch(hunk(0, "a b c", "d")), patch(hunk(2, "x", "y"))},
		{patch(hunk(4, "x", "y")), patch(hunk(0, "a b c", "d e f")), patch(hunk(4, "x", "y"))},
		{patch(hunk(4, "x", "y")), patch(hunk(6, "a", "b c d")), patch(hunk(4, "x", "y"))},
		// The growth of p itself does not count.
		{patch(hunk(0, "", "x y"), hunk(4, "z", "")), patch(hunk(2, "a", "")), patch(hunk(0, "", "x y"), hunk(3, "z", ""))},
		{patch(hunk(1, "", "x"), hunk(5, "", "y"), hunk(9, "", "z")), patch(hunk(3, "a", "b c"), hunk(7, "d", "")),
			patch(hunk(1, "", "x"), hunk(6, "", "y"), hunk(9, "", "z"))},
		// The old ranges count, not the new ones.
		{patch(hunk(2, "x", "")), patch(hunk(0, "", "a b c d")), patch(hunk(6, "x", ""))},
		{patch(hunk(0, "", "a b c d")), patch(hunk(2, "x", "")), patch(hunk(0, "", "a b c d"))},
	} {
		checkRebase(t, c.p, c.over, move{moved: c.want, ok: true})
	}
}

func TestRebaseOfTouchingPatches(t *testing.T) {
	for _, c := range [][2]api.Hunk{
		{hunk(3, "", "a"), hunk(3, "", "b")},
		{hunk(3, "x", ""), hunk(3, "", "b")},
		{hunk(3, "x", ""), hunk(4, "", "b")},
		{hunk(3, "x", ""), hunk(2, "w", "b")},
		{hunk(3, "x", ""), hunk(4, "y", "b")},
		{hunk(3, "x y z", ""), hunk(4, "y", "b")},
		{hunk(3, "x y z", ""), hunk(4, "", "b")},
		{hunk(3, "x y z", ""), hunk(2, "w x", "b")},
		{hunk(0, "x", "y"), hunk(0, "x", "y")},
	} {
		for _, pair := range [][2]api.Hunk{c, {c[1], c[0]}} {
			checkRebase(t, patch(pair[0]), patch(pair[1]), move{})
			// One pair of hunks is enough.
			checkRebase(t, patch(pair[0], hunk(20, "a", "b")), patch(pair[1], hunk(30, "a", "b")), move{})
			checkRebase(t, patch(pair[0]), patch(pair[1], hunk(30, "", "b")), move{})
		}
	}
	checkRebase(t, patch(hunk(0, "a", ""), hunk(20, "b", "")), patch(hunk(9, "", "c"), hunk(21, "", "d")), move{})
	// No result is too large if there is none.
	checkRebase(t, patch(hunk(0, "", "x"), hunk(api.MaxLines, "", "y")), patch(hunk(0, "", "y")), move{})
}

func TestRebaseOfPatchesThatDoNotQuiteTouch(t *testing.T) {
	for _, c := range []struct{ p, over, want api.Hunk }{
		{hunk(3, "", "a"), hunk(2, "", "b"), hunk(4, "", "a")},
		{hunk(3, "", "a"), hunk(4, "", "b"), hunk(3, "", "a")},
		{hunk(3, "x", ""), hunk(2, "", "b"), hunk(4, "x", "")},
		{hunk(3, "x", ""), hunk(5, "", "b"), hunk(3, "x", "")},
		{hunk(3, "x", ""), hunk(1, "w", ""), hunk(2, "x", "")},
		{hunk(3, "x", ""), hunk(5, "y", ""), hunk(3, "x", "")},
		{hunk(3, "x", ""), hunk(0, "u v", "b"), hunk(2, "x", "")},
	} {
		checkRebase(t, patch(c.p), patch(c.over), move{moved: patch(c.want), ok: true})
	}
}

func TestPatchesOfOneTextInBothOrders(t *testing.T) {
	random := rand.New(rand.NewSource(3))
	moved := 0
	for range 2000 {
		text := samples.RandomText(random.Intn, random.Intn(api.MaxLines+1), 26)
		p, over, both := halves(random, text)
		second, ok, f := Rebase(p, over)
		other, otherOK, g := Rebase(over, p)
		if f != (api.Fault{}) || g != (api.Fault{}) {
			continue
		}
		if !ok || !otherOK {
			t.Errorf("%v and %v are said to touch", p, over)
		}
		checkComposed(t, over, second, both)
		checkComposed(t, p, other, both)
		checkCommute(t, over, second, exchange{first: p, second: other, ok: true})
		checkCommute(t, p, other, exchange{first: over, second: second, ok: true})
		moved++
	}
	if moved < 1000 {
		t.Errorf("only %d patches were moved", moved)
	}
}

func TestRebaseAtLimits(t *testing.T) {
	x, y := repeat(longest, api.MaxLines), repeat("y", api.MaxLines)
	last := api.MaxLines - 1
	for _, c := range []struct{ p, over, want api.Patch }{
		{patch(hunk(last, "", "y")), patch(hunk(0, "", "a")), patch(hunk(api.MaxLines, "", "y"))},
		{patch(hunk(last-1, "a", "")), patch(hunk(0, "", "a")), patch(hunk(last, "a", ""))},
		{patch(hunk(1, "", "b")), patch(api.Hunk{At: 0, New: y[1:]}), patch(hunk(api.MaxLines, "", "b"))},
		{patch(hunk(api.MaxLines, "", "y")), patch(api.Hunk{At: 0, Old: x[1:]}), patch(hunk(1, "", "y"))},
		{patch(api.Hunk{At: 0, New: y}), patch(api.Hunk{At: 1, Old: x[1:], New: y}), patch(api.Hunk{At: 0, New: y})},
		{insertions(api.MaxLines + 1), patch(), insertions(api.MaxLines + 1)},
		{patch(), insertions(api.MaxLines + 1), patch()},
	} {
		checkRebase(t, c.p, c.over, move{moved: c.want, ok: true})
	}
}

func TestRebaseTooLarge(t *testing.T) {
	y := repeat("y", api.MaxLines)
	last := api.MaxLines - 1
	for _, c := range [][2]api.Patch{
		{patch(hunk(api.MaxLines, "", "y")), patch(hunk(0, "", "a"))},
		{patch(hunk(last, "a", "")), patch(hunk(0, "", "a"))},
		{patch(hunk(last, "a", "b c")), patch(hunk(0, "a", "b c"))},
		{patch(hunk(2, "", "b")), patch(api.Hunk{At: 0, New: y[1:]})},
		{patch(hunk(1, "b", "")), patch(api.Hunk{At: 0, New: y[1:]})},
		{patch(hunk(3, "", "b"), hunk(last, "a", "")), patch(hunk(0, "", "a"))},
		{patch(hunk(4, "", "b")), patch(api.Hunk{At: 0, New: y}, api.Hunk{At: 2, New: y})},
	} {
		checkRebase(t, c[0], c[1], move{fault: fault(api.ErrTooLarge, -1)})
	}
}

// Errors of both functions

func checkFault(t *testing.T, first, second api.Patch, want api.Fault) {
	t.Helper()
	checkCommute(t, first, second, exchange{fault: want})
	checkRebase(t, first, second, move{fault: want})
}

func TestErrorsOfFirstPatch(t *testing.T) {
	for _, c := range samples.InvalidPatches() {
		checkFault(t, c.Patch, patch(), c.Fault)
		checkFault(t, c.Patch, patch(hunk(30, "a", "b")), c.Fault)
		// This comes before whether the patches touch, and before the size of the result.
		checkFault(t, c.Patch, patch(hunk(0, "a", "b")), c.Fault)
		checkFault(t, c.Patch, patch(hunk(api.MaxLines, "", "b")), c.Fault)
	}
}

func TestErrorsOfSecondPatch(t *testing.T) {
	for _, c := range samples.InvalidPatches() {
		want := fault(c.Fault.Code, -2)
		checkFault(t, patch(), c.Patch, want)
		checkFault(t, patch(hunk(30, "a", "b")), c.Patch, want)
		checkFault(t, patch(hunk(0, "a", "b")), c.Patch, want)
		checkFault(t, patch(hunk(api.MaxLines, "", "b")), c.Patch, want)
	}
}

func TestErrorsOfFirstPatchComeFirst(t *testing.T) {
	for _, first := range samples.InvalidPatches() {
		for _, second := range samples.InvalidPatches() {
			checkFault(t, first.Patch, second.Patch, first.Fault)
		}
	}
}

// Memory of both functions

func TestArgumentsStay(t *testing.T) {
	p := samples.SparePatch(patch(hunk(0, "a", "b c"), hunk(8, "d", "")))
	q := samples.SparePatch(patch(hunk(4, "e", ""), hunk(12, "", "f g")))
	beforeP, beforeQ := samples.WithCapacity(p), samples.WithCapacity(q)
	checkCommute(t, p, q, exchange{
		first:  patch(hunk(3, "e", ""), hunk(12, "", "f g")),
		second: patch(hunk(0, "a", "b c"), hunk(7, "d", "")), ok: true,
	})
	checkRebase(t, q, p, move{moved: patch(hunk(5, "e", ""), hunk(12, "", "f g")), ok: true})
	checkRebase(t, p, p, move{})
	afterP, afterQ := samples.WithCapacity(p), samples.WithCapacity(q)
	if !samples.EqualPatches(beforeP, afterP) || !samples.EqualPatches(beforeQ, afterQ) {
		t.Errorf("the patches became %v and %v", afterP, afterQ)
	}
}

func TestResultsAreNewMemory(t *testing.T) {
	p := samples.SparePatch(patch(hunk(0, "a", "b c"), hunk(8, "d", "")))
	q := samples.SparePatch(patch(hunk(4, "e", ""), hunk(12, "", "f g")))
	// The arguments may share memory with each other; the results do not even then.
	q.Hunks[0].Old = p.Hunks[1].Old
	patches := []api.Patch{p}
	for range 2 {
		first, second, _, _ := Commute(p, q)
		moved, _, _ := Rebase(p, q)
		same, _, _ := Rebase(q, patch())
		unmoved, none, _, _ := Commute(patch(), q)
		patches = append(patches, first, second, moved, same, unmoved, none)
	}
	var hunks [][]api.Hunk
	lists := [][]string{q.Hunks[1].New}
	for _, p := range patches {
		hunks = append(hunks, p.Hunks)
		for _, h := range p.Hunks {
			lists = append(lists, h.Old, h.New)
		}
	}
	if len(lists) < 40 {
		t.Fatalf("only %d lists to compare", len(lists))
	}
	if samples.Shared(lists...) || samples.Shared(append(hunks, q.Hunks)...) {
		t.Error("the results share memory with each other or with the arguments")
	}
}
