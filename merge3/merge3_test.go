package merge3

import (
	"math"
	"math/rand"
	"slices"
	"testing"

	"changeforge/api"
	"changeforge/commute"
	"changeforge/diff"
	"changeforge/samples"
	"changeforge/textpatch"
)

const longest, tooLong = samples.Longest, samples.TooLong

var fault, repeat, words = samples.Fault, samples.Repeat, samples.Words

// plain returns a chunk without conflict.
func plain(text string) api.Chunk { return api.Chunk{Lines: words(text)} }

// conflict returns a conflict whose alternatives are each written in one line.
func conflict(base, left, right string) api.Chunk {
	return api.Chunk{Conflict: true, Base: words(base), Left: words(left), Right: words(right)}
}

func chunks(list ...api.Chunk) []api.Chunk { return list }

// bases returns n conflicts, each with one line in Base.
func bases(n int) []api.Chunk { return slices.Repeat(chunks(conflict("a", "", "")), n) }

// sized returns a conflict with the given numbers of lines.
func sized(base, left, right int) api.Chunk {
	return api.Chunk{Conflict: true, Base: repeat("b", base), Left: repeat("l", left), Right: repeat("r", right)}
}

func equalChunks(a, b []api.Chunk) bool {
	return slices.EqualFunc(a, b, func(c, d api.Chunk) bool {
		return c.Conflict == d.Conflict && slices.EqualFunc(textsOf(c), textsOf(d), slices.Equal)
	})
}

func textsOf(c api.Chunk) [][]string { return [][]string{c.Lines, c.Base, c.Left, c.Right} }

func checkMerge(t *testing.T, base, left, right []string, want []api.Chunk, wantFault api.Fault) {
	t.Helper()
	got, gotFault := Merge(base, left, right)
	if !equalChunks(got, want) || gotFault != wantFault {
		t.Errorf("Merge(%.200q, %.200q, %.200q): got %.300v %v, want %.300v %v",
			base, left, right, got, gotFault, want, wantFault)
	}
}

func checkClean(t *testing.T, list []api.Chunk, want []string, wantOK bool, wantFault api.Fault) {
	t.Helper()
	got, gotOK, gotFault := Clean(list)
	if !slices.Equal(got, want) || gotOK != wantOK || gotFault != wantFault {
		t.Errorf("Clean(%.300v): got %.300q %v %v, want %.300q %v %v", list, got, gotOK, gotFault, want, wantOK, wantFault)
	}
}

func checkResolve(t *testing.T, list []api.Chunk, choices []int, want []string, wantFault api.Fault) {
	t.Helper()
	got, gotFault := Resolve(list, choices)
	if !slices.Equal(got, want) || gotFault != wantFault {
		t.Errorf("Resolve(%.300v, %.100v): got %.300q %v, want %.300q %v", list, choices, got, gotFault, want, wantFault)
	}
}

// The definition of Merge, followed from the lines that both sides keep: the hunks between two such lines touch each other and no others, because each line between them is deleted on one side.

// counterparts returns, for each line of the base, its index on a side, or -1 if it is deleted there. The end of the base, which is always kept, comes last.
func counterparts(base, side []string) []int {
	var found []int
	p, _ := diff.Script(base, side)
	from, growth := 0, 0
	keep := func(to int) {
		for i := from; i < to; i++ {
			found = append(found, i+growth)
		}
	}
	for _, h := range p.Hunks {
		keep(h.At)
		found = append(found, slices.Repeat([]int{-1}, len(h.Old))...)
		from = h.At + len(h.Old)
		growth += len(h.New) - len(h.Old)
	}
	keep(len(base) + 1)
	return found
}

func merge(base, left, right []string) []api.Chunk {
	var all []api.Chunk
	var merged []string
	finish := func() {
		if len(merged) > 0 {
			all = append(all, api.Chunk{Lines: merged})
			merged = nil
		}
	}
	inLeft, inRight := counterparts(base, left), counterparts(base, right)
	b, l, r := 0, 0, 0
	for i := range inLeft {
		if inLeft[i] < 0 || inRight[i] < 0 {
			continue
		}
		old, ours, theirs := base[b:i], left[l:inLeft[i]], right[r:inRight[i]]
		switch {
		// A side has the lines of the base exactly if it does not change them, because the script keeps as many lines as possible.
		case slices.Equal(theirs, old) || slices.Equal(theirs, ours):
			merged = append(merged, ours...)
		case slices.Equal(ours, old):
			merged = append(merged, theirs...)
		default:
			finish()
			all = append(all, api.Chunk{Conflict: true, Base: old, Left: ours, Right: theirs})
		}
		merged = append(merged, base[i:min(i+1, len(base))]...)
		b, l, r = i+1, inLeft[i]+1, inRight[i]+1
	}
	finish()
	return all
}

// A tally counts the kinds of merges, so that a test can require each of them.
type tally struct{ clean, one, several int }

func (c *tally) add(list []api.Chunk) {
	switch n := numberOfConflicts(list); n {
	case 0:
		c.clean++
	case 1:
		c.one++
	default:
		c.several++
	}
}

func (c *tally) require(t *testing.T, clean, one, several int) {
	t.Helper()
	if c.clean < clean || c.one < one || c.several < several {
		t.Errorf("only %d merges have no conflict, %d have one and %d have several", c.clean, c.one, c.several)
	}
}

func numberOfConflicts(list []api.Chunk) int {
	n := 0
	for _, c := range list {
		if c.Conflict {
			n++
		}
	}
	return n
}

// derived returns a text made from another one by a few changes. Both have lines of the given number of kinds.
func derived(random *rand.Rand, text []string, kinds int) []string {
	for {
		p := samples.RandomPatch(random.Intn, text, 2+random.Intn(60), kinds)
		result, f := textpatch.Apply(p, text)
		if f == (api.Fault{}) {
			return result
		}
	}
}

// sides returns a base and two texts derived from it.
func sides(random *rand.Rand) (base, left, right []string) {
	kinds := 1 + random.Intn(26)
	base = samples.RandomText(random.Intn, random.Intn(api.MaxLines+1), kinds)
	return base, derived(random, base, kinds), derived(random, base, kinds)
}

// R6.1

func TestExampleOfMerge(t *testing.T) {
	checkMerge(t, words("a"), words("b"), words("c"), chunks(conflict("a", "b", "c")), api.Fault{})
}

func TestMergesWithoutConflict(t *testing.T) {
	for _, c := range []struct{ base, left, right, want string }{
		{"a b", "a b", "a b", "a b"},
		{"a b c", "x b c", "a b c", "x b c"},
		{"a b c", "a b c", "x b c", "x b c"},
		{"a b c", "a x y b c", "a b c", "a x y b c"},
		{"a b c", "a b c", "a c", "a c"},
		// An unchanged line between two changes keeps them apart.
		{"a b c", "x b c", "a b y", "x b y"},
		{"a b c", "a b y", "x b c", "x b y"},
		{"a b c", "b c", "a b", "b"},
		{"a", "x a", "a y", "x a y"},
		{"a b c", "x a b c", "a b", "x a b"},
		{"a b c d e", "x b c d y", "a b z d e", "x b z d y"},
		{"a b c d e f g", "a1 b c d e1 f g", "a b c1 d e f g1", "a1 b c1 d e1 f g1"},
		// Both sides make the same change.
		{"", "x y", "x y", "x y"},
		{"a", "b", "b", "b"},
		{"a b c", "a x c", "a x c", "a x c"},
		{"a b", "a x b", "a x b", "a x b"},
		{"a b c", "c", "c", "c"},
		{"a b c d e", "x b y d e", "x b c d z", "x b y d z"},
	} {
		checkMerge(t, words(c.base), words(c.left), words(c.right), chunks(plain(c.want)), api.Fault{})
	}
}

func TestMergesWithConflicts(t *testing.T) {
	for _, c := range []struct {
		base, left, right string
		want              []api.Chunk
	}{
		{"", "x", "y", chunks(conflict("", "x", "y"))},
		{"a b c", "a x c", "a y c", chunks(plain("a"), conflict("b", "x", "y"), plain("c"))},
		{"a b c", "x b y", "u b v", chunks(conflict("a", "x", "u"), plain("b"), conflict("c", "y", "v"))},
		// One side deletes what the other one changes.
		{"a b c", "a c", "a x c", chunks(plain("a"), conflict("b", "", "x"), plain("c"))},
		{"a b c", "a x c", "a c", chunks(plain("a"), conflict("b", "x", ""), plain("c"))},
		{"a", "", "b", chunks(conflict("a", "", "b"))},
		// Both sides insert lines at the same place, and one of them begins or ends as the other one.
		{"a b", "a x b", "a y b", chunks(plain("a"), conflict("", "x", "y"), plain("b"))},
		{"a", "x a", "x y a", chunks(conflict("", "x", "x y"), plain("a"))},
		{"a", "a y", "a x y", chunks(plain("a"), conflict("", "y", "x y"))},
		// Changes at neighbouring lines touch.
		{"a b", "x b", "a y", chunks(conflict("a b", "x b", "a y"))},
		{"a b", "a y", "x b", chunks(conflict("a b", "a y", "x b"))},
		{"a b c", "b c", "a c", chunks(conflict("a b", "b", "a"), plain("c"))},
		{"a b", "a x b", "y b", chunks(conflict("a", "a x", "y"), plain("b"))},
		{"a b", "a x b", "a y", chunks(plain("a"), conflict("b", "x b", "y"))},
		{"a b", "y b", "a x b", chunks(conflict("a", "y", "a x"), plain("b"))},
		{"a b", "a y", "a x b", chunks(plain("a"), conflict("b", "y", "x b"))},
		// One lies inside the other.
		{"a b c d e", "a e", "a b x d e", chunks(plain("a"), conflict("b c d", "", "b x d"), plain("e"))},
		{"a b c d e", "a b c x d e", "a y e", chunks(plain("a"), conflict("b c d", "b c x d", "y"), plain("e"))},
		// Several changes touch one after the other.
		{"a b c d", "x b y d", "a z c d", chunks(conflict("a b c", "x b y", "a z c"), plain("d"))},
		{"a b c d e f", "a x c y e f", "a b z d u f", chunks(plain("a"), conflict("b c d e", "x c y e", "b z d u"), plain("f"))},
		// The longer range on either side counts, and changes that the combined range contains do not shorten it.
		{"a b c d e f", "x e f", "a y c d e1 f", chunks(conflict("a b c d e", "x e", "a y c d e1"), plain("f"))},
		{"a b c d e f", "a y c d e1 f", "x e f", chunks(conflict("a b c d e", "a y c d e1", "x e"), plain("f"))},
		// Chunks without conflict are around them, where they have lines.
		{"a b c d", "x b y", "u b c", chunks(conflict("a", "x", "u"), plain("b"), conflict("c d", "y", "c"))},
		{"a b c", "x b", "y b c", chunks(conflict("a", "x", "y"), plain("b"))},
		{"a b c d e", "x c d z", "c u e", chunks(conflict("a b", "x", ""), plain("c"), conflict("d e", "d z", "u e"))},
		{"a b c d e f g", "a1 b c1 d e f g", "a b c2 d e1 f g",
			chunks(plain("a1 b"), conflict("c", "c1", "c2"), plain("d e1 f g"))},
	} {
		checkMerge(t, words(c.base), words(c.left), words(c.right), c.want, api.Fault{})
	}
}

func TestMergesWithoutLines(t *testing.T) {
	for _, c := range []struct{ base, left, right string }{
		{"", "", ""}, {"a b", "", "a b"}, {"a b", "a b", ""}, {"a b", "", ""},
	} {
		checkMerge(t, words(c.base), words(c.left), words(c.right), nil, api.Fault{})
	}
}

func TestEmptyLinesAreLines(t *testing.T) {
	checkMerge(t, []string{""}, []string{"", ""}, []string{""}, chunks(api.Chunk{Lines: []string{"", ""}}), api.Fault{})
	checkMerge(t, []string{""}, []string{}, []string{"", ""},
		chunks(api.Chunk{Conflict: true, Base: []string{""}, Right: []string{"", ""}}), api.Fault{})
}

func TestSmallMergesFollowDefinition(t *testing.T) {
	var kinds tally
	for _, all := range [][][]string{samples.Texts(3, "a", "b", "c"), samples.Texts(4, "a", "b")} {
		for _, base := range all {
			for _, left := range all {
				for _, right := range all {
					want := merge(base, left, right)
					checkMerge(t, base, left, right, want, api.Fault{})
					kinds.add(want)
				}
			}
		}
	}
	kinds.require(t, 10000, 10000, 1000)
}

func TestLargeMergesFollowDefinition(t *testing.T) {
	random := rand.New(rand.NewSource(1))
	var kinds tally
	for range 2500 {
		base, left, right := sides(random)
		want := merge(base, left, right)
		checkMerge(t, base, left, right, want, api.Fault{})
		kinds.add(want)
	}
	kinds.require(t, 300, 300, 300)
}

func TestMergeWithOneChangedSide(t *testing.T) {
	random := rand.New(rand.NewSource(2))
	for range 500 {
		base, side, _ := sides(random)
		var want []api.Chunk
		if len(side) > 0 {
			want = chunks(api.Chunk{Lines: side})
		}
		checkMerge(t, base, side, base, want, api.Fault{})
		checkMerge(t, base, base, side, want, api.Fault{})
		checkMerge(t, base, side, side, want, api.Fault{})
	}
}

func TestSidesCanBeExchanged(t *testing.T) {
	random := rand.New(rand.NewSource(3))
	for range 1000 {
		base, left, right := sides(random)
		want, _ := Merge(base, left, right)
		for i, c := range want {
			want[i].Left, want[i].Right = c.Right, c.Left
		}
		checkMerge(t, base, right, left, want, api.Fault{})
	}
}

// rebased returns the result of the changes of both sides, one after the other, if they do not touch.
func rebased(base, left, right []string) ([]string, bool) {
	p, _ := diff.Script(base, left)
	q, _ := diff.Script(base, right)
	moved, ok, _ := commute.Rebase(q, p)
	text, f := textpatch.Apply(moved, left)
	return text, ok && f == api.Fault{}
}

func TestChangesThatDoNotTouchAreMerged(t *testing.T) {
	random := rand.New(rand.NewSource(4))
	merges := 0
	for range 3000 {
		base, left, right := sides(random)
		want, ok := rebased(base, left, right)
		if !ok || len(want) == 0 {
			continue
		}
		checkMerge(t, base, left, right, chunks(api.Chunk{Lines: want}), api.Fault{})
		merges++
	}
	if merges < 400 {
		t.Errorf("only %d changes were merged", merges)
	}
}

func TestMergeAtLimits(t *testing.T) {
	all := api.MaxLines
	a, b, c := repeat(longest, all), repeat("b", all), repeat("c", all)
	checkMerge(t, a, b, c, chunks(api.Chunk{Conflict: true, Base: a, Left: b, Right: c}), api.Fault{})
	checkMerge(t, nil, b, c, chunks(api.Chunk{Conflict: true, Left: b, Right: c}), api.Fault{})
	checkMerge(t, a, b, nil, chunks(api.Chunk{Conflict: true, Base: a, Left: b}), api.Fault{})
	checkMerge(t, a, a, b, chunks(api.Chunk{Lines: b}), api.Fault{})
	checkMerge(t, a, nil, a, nil, api.Fault{})
	// Every second line is a conflict.
	var base, left, right []string
	var want []api.Chunk
	for range all / 2 {
		base, left, right = append(base, "a", "."), append(left, "b", "."), append(right, "c", ".")
		want = append(want, conflict("a", "b", "c"), plain("."))
	}
	checkMerge(t, base, left, right, want, api.Fault{})
}

// The document has no error for a merge with more lines than a text; its chunk is then not valid.
func TestMergeLongerThanText(t *testing.T) {
	base, half := words("a"), api.MaxLines-1
	left, right := append(repeat("x", half), "a"), append([]string{"a"}, repeat("y", half)...)
	want := chunks(api.Chunk{Lines: slices.Concat(repeat("x", half), right)})
	checkMerge(t, base, left, right, want, api.Fault{})
	checkClean(t, want, nil, false, fault(api.ErrTooMany, 0))
}

func TestErrorsOfMerge(t *testing.T) {
	valid := words("a b")
	for _, first := range samples.InvalidTexts() {
		ofLeft, ofRight := fault(first.Fault.Code, -2), fault(first.Fault.Code, -3)
		checkMerge(t, first.Text, valid, valid, nil, first.Fault)
		checkMerge(t, valid, first.Text, valid, nil, ofLeft)
		checkMerge(t, valid, valid, first.Text, nil, ofRight)
		checkMerge(t, nil, nil, first.Text, nil, ofRight)
		for _, second := range samples.InvalidTexts() {
			checkMerge(t, first.Text, second.Text, valid, nil, first.Fault)
			checkMerge(t, first.Text, valid, second.Text, nil, first.Fault)
			checkMerge(t, first.Text, second.Text, second.Text, nil, first.Fault)
			checkMerge(t, valid, first.Text, second.Text, nil, ofLeft)
		}
	}
}

// R6.2

// checkInvalid checks the errors that Clean and Resolve have in common.
func checkInvalid(t *testing.T, list []api.Chunk, want api.Fault) {
	t.Helper()
	checkClean(t, list, nil, false, want)
	// They come before the errors of the choices.
	for _, choices := range [][]int{nil, make([]int, numberOfConflicts(list)), make([]int, len(list)+1), {-1}, {4}} {
		checkResolve(t, list, choices, nil, want)
	}
}

func TestTooManyChunks(t *testing.T) {
	limit := 2 * api.MaxLines
	empty := slices.Repeat(chunks(api.Chunk{Conflict: true}), limit)
	checkClean(t, empty, nil, false, api.Fault{})
	checkResolve(t, empty, make([]int, limit), nil, api.Fault{})
	checkInvalid(t, append(empty, plain("a")), fault(api.ErrTooMany, -1))
	checkInvalid(t, append(chunks(plain("")), empty...), fault(api.ErrTooMany, -1))
	checkInvalid(t, bases(3*limit), fault(api.ErrTooMany, -1))
}

// An invalidChunk has an error that is not due to its position.
type invalidChunk struct {
	chunk api.Chunk
	code  int
}

// malformedChunks returns chunks whose lines are valid.
func malformedChunks() []invalidChunk {
	one := words("a")
	return []invalidChunk{
		{api.Chunk{}, api.ErrMalformed},
		{api.Chunk{Lines: []string{}}, api.ErrMalformed},
		{api.Chunk{Base: one}, api.ErrMalformed},
		{api.Chunk{Left: one}, api.ErrMalformed},
		{api.Chunk{Right: one}, api.ErrMalformed},
		{api.Chunk{Lines: one, Base: one}, api.ErrMalformed},
		{api.Chunk{Lines: one, Left: one}, api.ErrMalformed},
		{api.Chunk{Lines: one, Right: one}, api.ErrMalformed},
		{api.Chunk{Conflict: true, Lines: one}, api.ErrMalformed},
		{api.Chunk{Conflict: true, Lines: one, Base: one, Left: one, Right: one}, api.ErrMalformed},
		{api.Chunk{Conflict: true, Lines: []string{""}}, api.ErrMalformed},
	}
}

// chunkOf returns a chunk that consists of the four texts.
func chunkOf(conflict bool, texts [4][]string) api.Chunk {
	return api.Chunk{Conflict: conflict, Lines: texts[0], Base: texts[1], Left: texts[2], Right: texts[3]}
}

// chunksWithInvalidTexts returns chunks with one invalid text, and with two of which the first one decides.
func chunksWithInvalidTexts() []invalidChunk {
	var all []invalidChunk
	add := func(texts [4][]string, code int) {
		all = append(all, invalidChunk{chunkOf(false, texts), code}, invalidChunk{chunkOf(true, texts), code})
	}
	for i := range 4 {
		for _, first := range samples.InvalidTexts() {
			var texts [4][]string
			texts[i] = first.Text
			add(texts, first.Fault.Code)
			for j := i + 1; j < 4; j++ {
				for _, second := range samples.InvalidTexts() {
					both := texts
					both[j] = second.Text
					add(both, first.Fault.Code)
				}
			}
		}
	}
	return all
}

func TestInvalidChunks(t *testing.T) {
	for _, c := range append(malformedChunks(), chunksWithInvalidTexts()...) {
		checkInvalid(t, chunks(c.chunk), fault(c.code, 0))
		checkInvalid(t, chunks(plain("a"), conflict("a", "b", "c"), c.chunk, plain("d")), fault(c.code, 2))
		checkInvalid(t, append(bases(2*api.MaxLines-1), c.chunk), fault(c.code, 2*api.MaxLines-1))
	}
}

func TestFirstInvalidChunkDecides(t *testing.T) {
	malformed, long := plain(""), api.Chunk{Lines: []string{tooLong}}
	checkInvalid(t, chunks(malformed, long), fault(api.ErrMalformed, 0))
	checkInvalid(t, chunks(long, malformed), fault(api.ErrTooMany, 0))
	checkInvalid(t, chunks(plain("a"), malformed, plain("b"), long), fault(api.ErrMalformed, 1))
	checkInvalid(t, chunks(plain("a"), long, plain("b"), malformed), fault(api.ErrTooMany, 1))
}

func TestChunksAtLimitsAreValid(t *testing.T) {
	full := repeat(longest, api.MaxLines)
	checkClean(t, chunks(api.Chunk{Lines: full}), full, true, api.Fault{})
	list := chunks(api.Chunk{Conflict: true, Base: full, Left: full, Right: full})
	checkClean(t, list, nil, false, api.Fault{})
	for choice := range 3 {
		checkResolve(t, list, []int{choice}, full, api.Fault{})
	}
}

func TestResultsOfMergeAreValid(t *testing.T) {
	random := rand.New(rand.NewSource(5))
	for range 500 {
		base, left, right := sides(random)
		list, _ := Merge(base, left, right)
		if _, _, f := Clean(list); f != (api.Fault{}) && f.Code != api.ErrTooLarge && f.Code != api.ErrTooMany {
			t.Errorf("Clean(%v): got %v", list, f)
		}
	}
}

// R6.3

func TestExampleOfClean(t *testing.T) {
	checkClean(t, chunks(plain("a")), words("a"), true, api.Fault{})
}

func TestCleanValues(t *testing.T) {
	checkClean(t, nil, nil, true, api.Fault{})
	checkClean(t, chunks(), nil, true, api.Fault{})
	checkClean(t, chunks(plain("a b c")), words("a b c"), true, api.Fault{})
	checkClean(t, chunks(api.Chunk{Lines: []string{""}}), []string{""}, true, api.Fault{})
	checkClean(t, chunks(plain("a b"), plain("a"), plain("c d")), words("a b a c d"), true, api.Fault{})
	for _, c := range []api.Chunk{
		conflict("a", "b", "c"), conflict("", "", ""), conflict("a", "", ""), conflict("", "a", ""), conflict("", "", "a"),
		conflict("a", "a", "a"),
	} {
		checkClean(t, chunks(c), nil, false, api.Fault{})
		checkClean(t, chunks(c, plain("x")), nil, false, api.Fault{})
		checkClean(t, chunks(plain("x"), c), nil, false, api.Fault{})
		checkClean(t, chunks(plain("x"), c, plain("y"), c), nil, false, api.Fault{})
	}
}

func TestCleanTooLarge(t *testing.T) {
	half := api.Chunk{Lines: repeat("a", api.MaxLines/2)}
	checkClean(t, chunks(half, half), repeat("a", api.MaxLines), true, api.Fault{})
	tooMuch := chunks(half, half, plain("b"))
	checkClean(t, tooMuch, nil, false, fault(api.ErrTooLarge, -1))
	checkClean(t, slices.Repeat(chunks(half), 2*api.MaxLines), nil, false, fault(api.ErrTooLarge, -1))
	// With a conflict there is no text, so it is not too large.
	checkClean(t, append(tooMuch, conflict("a", "b", "c")), nil, false, api.Fault{})
	checkClean(t, append(chunks(conflict("", "", "")), tooMuch...), nil, false, api.Fault{})
	// An invalid chunk is found first.
	checkClean(t, append(tooMuch, plain("")), nil, false, fault(api.ErrMalformed, 3))
}

// R6.4

func TestExampleOfResolve(t *testing.T) {
	list, _ := Merge(words("a"), words("b"), words("c"))
	checkResolve(t, list, []int{3}, words("b c"), api.Fault{})
}

func TestChoices(t *testing.T) {
	list := chunks(plain("x"), conflict("a1 a2", "b1 b2", "c1 c2"), plain("y"))
	for choice, want := range []string{"x a1 a2 y", "x b1 b2 y", "x c1 c2 y", "x b1 b2 c1 c2 y"} {
		checkResolve(t, list, []int{choice}, words(want), api.Fault{})
	}
	// An alternative without lines leaves none.
	list = chunks(plain("x"), conflict("a", "", "c"), plain("y"), conflict("", "d", ""))
	for _, c := range []struct {
		choices []int
		want    string
	}{
		{[]int{0, 0}, "x a y"}, {[]int{1, 1}, "x y d"}, {[]int{2, 2}, "x c y"}, {[]int{3, 3}, "x c y d"},
		{[]int{0, 1}, "x a y d"}, {[]int{1, 0}, "x y"}, {[]int{3, 2}, "x c y"}, {[]int{2, 3}, "x c y d"},
	} {
		checkResolve(t, list, c.choices, words(c.want), api.Fault{})
	}
}

func TestResolveWithoutConflict(t *testing.T) {
	checkResolve(t, nil, nil, nil, api.Fault{})
	checkResolve(t, chunks(), []int{}, nil, api.Fault{})
	checkResolve(t, chunks(plain("a b"), plain("c")), nil, words("a b c"), api.Fault{})
}

// resolve chooses the lines of a chunk from a table.
func resolve(list []api.Chunk, choices []int) []string {
	var text []string
	next := 0
	for _, c := range list {
		text = append(text, c.Lines...)
		if c.Conflict {
			alternatives := [][]string{c.Base, c.Left, c.Right, append(slices.Clone(c.Left), c.Right...)}
			text = append(text, alternatives[choices[next]]...)
			next++
		}
	}
	return text
}

func TestMergesAreResolved(t *testing.T) {
	random := rand.New(rand.NewSource(6))
	var kinds tally
	for range 2000 {
		list := merge(sides(random))
		choices := make([]int, numberOfConflicts(list))
		for i := range choices {
			choices[i] = random.Intn(4)
		}
		want := resolve(list, choices)
		if len(want) > api.MaxLines {
			continue
		}
		checkResolve(t, list, choices, want, api.Fault{})
		if len(choices) == 0 {
			checkClean(t, list, want, true, api.Fault{})
		} else {
			checkClean(t, list, nil, false, api.Fault{})
		}
		kinds.add(list)
	}
	kinds.require(t, 200, 200, 200)
}

func TestNumberOfChoices(t *testing.T) {
	one, two := chunks(plain("x"), conflict("a", "b", "c")), bases(2)
	for _, c := range []struct {
		list    []api.Chunk
		choices []int
	}{
		{nil, []int{0}}, {chunks(plain("x")), []int{0}}, {one, nil}, {one, []int{0, 0}}, {two, []int{0}},
		{two, []int{0, 0, 0}}, {bases(2 * api.MaxLines), make([]int, 2*api.MaxLines-1)},
		// The number counts before the choices, and before the size of the result.
		{one, []int{-1, 0}}, {two, []int{4}}, {nil, []int{math.MinInt}},
		{append(one, plain("y"), api.Chunk{Lines: repeat("z", api.MaxLines)}), nil},
	} {
		checkResolve(t, c.list, c.choices, nil, fault(api.ErrLength, -2))
	}
}

func TestChoicesOutOfRange(t *testing.T) {
	full := api.Chunk{Lines: repeat("x", api.MaxLines)}
	for _, bad := range []int{-1, 4, 5, math.MinInt, math.MaxInt} {
		checkResolve(t, bases(1), []int{bad}, nil, fault(api.ErrRange, -3))
		checkResolve(t, bases(3), []int{0, bad, 3}, nil, fault(api.ErrRange, -4))
		// The first one decides.
		checkResolve(t, bases(4), []int{0, 3, bad, -1}, nil, fault(api.ErrRange, -5))
		// Chunks without conflict do not count.
		checkResolve(t, append(chunks(plain("x"), plain("y")), bases(2)...), []int{0, bad}, nil, fault(api.ErrRange, -4))
		// The size of the result counts later.
		checkResolve(t, append(chunks(full), bases(2)...), []int{0, bad}, nil, fault(api.ErrRange, -4))
		many := make([]int, 2*api.MaxLines)
		many[len(many)-1] = bad
		checkResolve(t, bases(len(many)), many, nil, fault(api.ErrRange, -3-len(many)+1))
	}
}

func TestResolveTooLarge(t *testing.T) {
	full := api.MaxLines
	tooLarge := fault(api.ErrTooLarge, -1)
	checkResolve(t, chunks(sized(1, 60, full-60)), []int{3}, append(repeat("l", 60), repeat("r", full-60)...), api.Fault{})
	checkResolve(t, chunks(sized(1, 60, full-59)), []int{3}, nil, tooLarge)
	checkResolve(t, bases(full), make([]int, full), repeat("a", full), api.Fault{})
	checkResolve(t, bases(full+1), make([]int, full+1), nil, tooLarge)
	checkResolve(t, slices.Repeat(chunks(sized(full, full, full)), 2*full), slices.Repeat([]int{3}, 2*full), nil, tooLarge)
	checkResolve(t, chunks(api.Chunk{Lines: repeat("x", full)}, plain("y")), nil, nil, tooLarge)
	// Only the chosen lines count.
	list := chunks(plain("x"), sized(full-1, full, full-1))
	checkResolve(t, list, []int{0}, append(words("x"), repeat("b", full-1)...), api.Fault{})
	checkResolve(t, list, []int{1}, nil, tooLarge)
	checkResolve(t, list, []int{2}, append(words("x"), repeat("r", full-1)...), api.Fault{})
	checkResolve(t, list, []int{3}, nil, tooLarge)
}

// Memory

// spareChunks returns a copy of chunks all of whose lists have more capacity than they need.
func spareChunks(list []api.Chunk) []api.Chunk {
	copies := make([]api.Chunk, 0, len(list)+2)
	for _, c := range list {
		texts := [4][]string{}
		for i, text := range textsOf(c) {
			texts[i] = samples.Spare(text)
		}
		copies = append(copies, chunkOf(c.Conflict, texts))
	}
	return copies
}

// withCapacity returns a copy of chunks that has what lies in the capacity of their lists, too.
func withCapacity(list []api.Chunk) []api.Chunk {
	var whole []api.Chunk
	for _, c := range list[:cap(list)] {
		texts := [4][]string{}
		for i, text := range textsOf(c) {
			texts[i] = slices.Clone(text[:cap(text)])
		}
		whole = append(whole, chunkOf(c.Conflict, texts))
	}
	return whole
}

func TestTextsStay(t *testing.T) {
	texts := [3][]string{}
	var before [3][]string
	for i, text := range []string{"a b c d e", "x b c1 d e", "a b c2 d y"} {
		texts[i] = samples.Spare(words(text))
		before[i] = slices.Clone(texts[i][:cap(texts[i])])
	}
	want := chunks(plain("x b"), conflict("c", "c1", "c2"), plain("d y"))
	checkMerge(t, texts[0], texts[1], texts[2], want, api.Fault{})
	for i, text := range texts {
		if after := text[:cap(text)]; !slices.Equal(after, before[i]) {
			t.Errorf("text %d became %q", i, after)
		}
	}
}

func TestChunksStay(t *testing.T) {
	list := spareChunks(chunks(plain("a b"), conflict("c", "d", "e"), plain("f"), conflict("", "g", "h")))
	choices := append(make([]int, 0, 8), 3, 1)
	before := withCapacity(list)
	checkClean(t, list, nil, false, api.Fault{})
	checkClean(t, list[:1], words("a b"), true, api.Fault{})
	checkResolve(t, list, choices, words("a b d e f g"), api.Fault{})
	checkResolve(t, list[1:], choices, words("d e f g"), api.Fault{})
	if after := withCapacity(list); !equalChunks(after, before) {
		t.Errorf("the chunks became %v", after)
	}
	if after := choices[:8]; !slices.Equal(after, []int{3, 1, 0, 0, 0, 0, 0, 0}) {
		t.Errorf("the choices became %v", after)
	}
}

func TestMergesAreNewMemory(t *testing.T) {
	base, left, right := words("a b c d e f g"), words("x b c1 d e f1 g"), words("a b c2 d y g")
	lists := [][]string{base, left, right}
	var results [][]api.Chunk
	for range 2 {
		for _, sides := range [][2][]string{{left, right}, {left, base}, {base, right}, {left, left}, {base, base}, {nil, right}} {
			result, _ := Merge(base, sides[0], sides[1])
			results = append(results, result)
			for _, c := range result {
				lists = append(lists, textsOf(c)...)
			}
		}
	}
	if len(lists) < 60 {
		t.Fatalf("only %d lists to compare", len(lists))
	}
	if samples.Shared(lists...) || samples.Shared(results...) {
		t.Error("the results share memory with each other or with the arguments")
	}
}

func TestMergedTextsAreNewMemory(t *testing.T) {
	list := chunks(conflict("a", "b", "c"))
	lists := append([][]string{}, textsOf(list[0])...)
	add := func(text []string, _ api.Fault) { lists = append(lists, text) }
	one := chunks(plain("x y"))
	lists = append(lists, one[0].Lines)
	for range 2 {
		for choice := range 4 {
			add(Resolve(list, []int{choice}))
		}
		add(Resolve(one, nil))
		text, _, f := Clean(one)
		add(text, f)
	}
	if samples.Shared(lists...) {
		t.Error("the results share memory with each other or with the arguments")
	}
}
