package sequence

import (
	"math"
	"math/rand"
	"slices"
	"strconv"
	"strings"
	"testing"

	"changeforge/api"
	"changeforge/lines"
	"changeforge/samples"
)

const longest, tooLong, newLine = samples.Longest, samples.TooLong, samples.NewLine

var fault, words = samples.Fault, samples.Words

// operations returns operations that are written in one line: b2/a1 inserts the element with counter 2 of replica b after the one with counter 1 of replica a, b2 inserts it at the beginning, and -b2 deletes it. The replicas are the letters from a on. The line of an insertion is the name of its element, unless another one is given as in b2/a1=line.
func operations(text string) []api.SeqOp {
	var ops []api.SeqOp
	for _, word := range words(text) {
		ops = append(ops, operation(word))
	}
	return ops
}

func operation(word string) api.SeqOp {
	var op api.SeqOp
	if name, ok := strings.CutPrefix(word, "-"); ok {
		op.Delete = true
		op.Counter, op.Replica = numbers(name)
		return op
	}
	place, line, given := strings.Cut(word, "=")
	name, after, follows := strings.Cut(place, "/")
	op.Counter, op.Replica = numbers(name)
	if follows {
		op.AfterCounter, op.AfterReplica = numbers(after)
	}
	op.Line = name
	if given {
		op.Line = line
	}
	return op
}

// numbers returns the counter and the replica of an element.
func numbers(name string) (int, int) {
	counter, err := strconv.Atoi(name[1:])
	if err != nil {
		panic(err)
	}
	return counter, int(name[0]) - 'a'
}

// chain returns n insertions, each after the one before.
func chain(n int) []api.SeqOp {
	var ops []api.SeqOp
	for i := range n {
		ops = append(ops, api.SeqOp{Counter: i + 1, AfterCounter: i, Line: strconv.Itoa(i)})
	}
	return ops
}

// deletions returns deletions of the elements with the counters 1 to n of the first replica.
func deletions(n int) []api.SeqOp {
	var ops []api.SeqOp
	for i := range n {
		ops = append(ops, api.SeqOp{Delete: true, Counter: i + 1})
	}
	return ops
}

// shuffled returns operations in another order.
func shuffled(random *rand.Rand, ops []api.SeqOp) []api.SeqOp {
	mixed := slices.Clone(ops)
	random.Shuffle(len(mixed), func(i, j int) { mixed[i], mixed[j] = mixed[j], mixed[i] })
	return mixed
}

func checkValidate(t *testing.T, ops []api.SeqOp, want api.Fault) {
	t.Helper()
	if got := Validate(ops); got != want {
		t.Errorf("Validate(%.300v): got %v, want %v", ops, got, want)
	}
}

func checkVisible(t *testing.T, ops []api.SeqOp, want []string, wantFault api.Fault) {
	t.Helper()
	got, gotFault := Visible(ops)
	if !slices.Equal(got, want) || gotFault != wantFault {
		t.Errorf("Visible(%.300v): got %.300q %v, want %.300q %v", ops, got, gotFault, want, wantFault)
	}
}

func checkMerge(t *testing.T, a, b, want []api.SeqOp, wantFault api.Fault) {
	t.Helper()
	got, gotFault := Merge(a, b)
	if !slices.Equal(got, want) || gotFault != wantFault {
		t.Errorf("Merge(%.300v, %.300v): got %.300v %v, want %.300v %v", a, b, got, gotFault, want, wantFault)
	}
}

// merged returns the union of two sets that can be merged.
func merged(t *testing.T, a, b []api.SeqOp) []api.SeqOp {
	t.Helper()
	union, f := Merge(a, b)
	if f != (api.Fault{}) {
		t.Fatalf("Merge(%.300v, %.300v): got %v", a, b, f)
	}
	return union
}

// visible returns the lines of a valid set.
func visible(t *testing.T, ops []api.SeqOp) []string {
	t.Helper()
	text, f := Visible(ops)
	if f != (api.Fault{}) {
		t.Fatalf("Visible(%.300v): got %v", ops, f)
	}
	return text
}

// The definitions, followed on elements that are written as lists of a counter and a replica.

var beginning = []int{0, 0}

func own(op api.SeqOp) []int { return []int{op.Counter, op.Replica} }

func after(op api.SeqOp) []int { return []int{op.AfterCounter, op.AfterReplica} }

func outOfRange(e []int) bool {
	return e[0] < 1 || e[0] > api.MaxValue || e[1] < 0 || e[1] > api.MaxReplicas-1
}

// has tells whether a set has an insertion or a deletion of an element.
func has(ops []api.SeqOp, isDeletion bool, e []int) bool {
	return slices.ContainsFunc(ops, func(op api.SeqOp) bool {
		return op.Delete == isDeletion && slices.Equal(own(op), e)
	})
}

func validate(ops []api.SeqOp) api.Fault {
	if len(ops) > api.MaxOps {
		return fault(api.ErrTooMany, -1)
	}
	for i, op := range ops {
		for _, rule := range []struct {
			broken bool
			code   int
		}{
			{outOfRange(own(op)), api.ErrRange},
			{op.Delete && (op.AfterReplica != 0 || op.AfterCounter != 0 || len(op.Line) > 0), api.ErrMalformed},
			{!op.Delete && !slices.Equal(after(op), beginning) && outOfRange(after(op)), api.ErrRange},
			{!op.Delete && slices.Compare(after(op), own(op)) >= 0, api.ErrMalformed},
			{len(op.Line) > api.MaxLine, api.ErrTooMany},
			{strings.Contains(op.Line, "\n"), api.ErrMalformed},
			{has(ops[:i], op.Delete, own(op)), api.ErrExists},
		} {
			if rule.broken {
				return fault(rule.code, i)
			}
		}
	}
	for i, op := range ops {
		if op.Delete && !has(ops, false, own(op)) {
			return fault(api.ErrNotFound, i)
		}
		if !op.Delete && !slices.Equal(after(op), beginning) && !has(ops, false, after(op)) {
			return fault(api.ErrNotFound, i)
		}
	}
	return api.Fault{}
}

// inOrder returns operations ordered by their elements, insertions first.
func inOrder(ops []api.SeqOp) []api.SeqOp {
	key := func(op api.SeqOp) []int {
		if op.Delete {
			return append(own(op), 1)
		}
		return append(own(op), 0)
	}
	sorted := slices.Clone(ops)
	slices.SortFunc(sorted, func(p, q api.SeqOp) int { return slices.Compare(key(p), key(q)) })
	return sorted
}

// visibleLines inserts the elements of a valid set from the smallest one to the greatest: each comes directly after the element that it was inserted after, because it is greater than all that follow it there.
func visibleLines(ops []api.SeqOp) []string {
	sequence := []api.SeqOp{{}}
	for _, op := range inOrder(ops) {
		if !op.Delete {
			at := slices.IndexFunc(sequence, func(other api.SeqOp) bool { return slices.Equal(own(other), after(op)) })
			sequence = slices.Insert(sequence, at+1, op)
		}
	}
	var text []string
	for _, op := range sequence[1:] {
		if !has(ops, true, own(op)) {
			text = append(text, op.Line)
		}
	}
	return text
}

// union merges two valid sets.
func union(a, b []api.SeqOp) ([]api.SeqOp, api.Fault) {
	all := slices.Clone(a)
	for i, op := range b {
		switch {
		case slices.Contains(a, op):
		case !op.Delete && has(a, false, own(op)):
			return nil, fault(api.ErrConflict, i)
		default:
			all = append(all, op)
		}
	}
	if len(all) > api.MaxOps {
		return nil, fault(api.ErrTooLarge, -1)
	}
	return inOrder(all), api.Fault{}
}

// lists returns all lists of at most n of the given operations.
func lists(n int, from []api.SeqOp) [][]api.SeqOp {
	all := [][]api.SeqOp{{}}
	last := all
	for range n {
		var next [][]api.SeqOp
		for _, list := range last {
			for _, op := range from {
				next = append(next, append(slices.Clone(list), op))
			}
		}
		all = append(all, next...)
		last = next
	}
	return all
}

// forests returns all valid sets that insert just the given elements, which are in increasing order, without their deletions.
func forests(names []string) [][]api.SeqOp {
	all := [][]api.SeqOp{{}}
	for i, name := range names {
		var next [][]api.SeqOp
		for _, ops := range all {
			next = append(next, append(slices.Clone(ops), operation(name)))
			for _, before := range names[:i] {
				next = append(next, append(slices.Clone(ops), operation(name+"/"+before)))
			}
		}
		all = next
	}
	return all
}

// withDeletions returns the set with the deletions of each subset of its elements.
func withDeletions(insertions []api.SeqOp) [][]api.SeqOp {
	all := [][]api.SeqOp{insertions}
	for _, op := range insertions {
		removal := api.SeqOp{Delete: true, Counter: op.Counter, Replica: op.Replica}
		for _, ops := range all {
			all = append(all, append(slices.Clone(ops), removal))
		}
	}
	return all
}

// A site edits its copy of a sequence.
type site struct {
	replica int
	ops     []api.SeqOp
}

// insert inserts a line at a random element, or at the beginning, as the greatest element that the site knows. It returns the operation.
func (s *site) insert(random *rand.Rand, line string) api.SeqOp {
	op := api.SeqOp{Replica: s.replica, Line: line}
	var elements [][]int
	for _, known := range s.ops {
		op.Counter = max(op.Counter, known.Counter)
		elements = append(elements, own(known))
	}
	op.Counter += 1 + random.Intn(2)
	if at := random.Intn(len(elements) + 1); at > 0 {
		op.AfterCounter, op.AfterReplica = elements[at-1][0], elements[at-1][1]
	}
	s.ops = append(s.ops, op)
	return op
}

// remove deletes a random element that the site has not deleted yet, if it knows one.
func (s *site) remove(random *rand.Rand) {
	for _, op := range shuffled(random, s.ops) {
		if !op.Delete && !has(s.ops, true, own(op)) {
			s.ops = append(s.ops, api.SeqOp{Delete: true, Counter: op.Counter, Replica: op.Replica})
			return
		}
	}
}

// editedSites returns the copies of several sites after some edits and exchanges. Together they have at most as many operations as there are edits.
func editedSites(t *testing.T, random *rand.Rand, edits int) []site {
	t.Helper()
	sites := make([]site, 1+random.Intn(api.MaxReplicas))
	for i := range sites {
		sites[i].replica = i
	}
	for edit := range edits {
		s := &sites[random.Intn(len(sites))]
		switch random.Intn(5) {
		case 0:
			s.remove(random)
		case 1:
			other := sites[random.Intn(len(sites))]
			s.ops = merged(t, s.ops, shuffled(random, other.ops))
		default:
			s.insert(random, strconv.Itoa(edit))
		}
	}
	return sites
}

// R9.1

func TestExampleOfValidate(t *testing.T) {
	checkValidate(t, operations("-a1"), fault(api.ErrNotFound, 0))
}

func TestValidSets(t *testing.T) {
	for _, text := range []string{
		"",
		"a1",
		"f1",
		"a1 -a1",
		"-a1 a1",
		"a1 b1 c1 d1 e1 f1",
		"a1 a2/a1",
		"a2/a1 a1",
		"a1 a2/a1 a3/a1 a4/a1",
		"a1 a9/a1",
		// A replica may insert an element that has no greater counter, if the replica is greater.
		"a1 b1/a1",
		"a1 b1/a1 f1/b1",
		"f1 a2/f1",
		// Deleted elements are still there.
		"a1 -a1 a2/a1",
		"a3/a2 -a2 a2/a1 -a1 a1",
		"a1=same b1=same a2=same",
		"a1= a2/a1=",
	} {
		checkValidate(t, operations(text), api.Fault{})
	}
	checkValidate(t, []api.SeqOp{}, api.Fault{})
	checkValidate(t, []api.SeqOp{{Counter: 1, Line: "\r\x00\xff"}}, api.Fault{})
}

func TestValidateAtLimits(t *testing.T) {
	const last, most = api.MaxReplicas - 1, api.MaxValue
	checkValidate(t, chain(api.MaxOps), api.Fault{})
	checkValidate(t, append(deletions(api.MaxOps/2), chain(api.MaxOps/2)...), api.Fault{})
	checkValidate(t, []api.SeqOp{
		{Counter: most, Replica: last, Line: longest, AfterCounter: most, AfterReplica: last - 1},
		{Counter: most, Replica: last - 1},
		{Counter: most},
		{Counter: 1, Replica: last},
		{Counter: 1},
		{Counter: 2, AfterCounter: 1, AfterReplica: last},
		{Delete: true, Counter: most, Replica: last},
		{Delete: true, Counter: 1},
	}, api.Fault{})
}

func TestTooManyOperations(t *testing.T) {
	checkValidate(t, chain(api.MaxOps+1), fault(api.ErrTooMany, -1))
	checkValidate(t, append(chain(api.MaxOps), operation("-a1")), fault(api.ErrTooMany, -1))
	// Their number comes before all other errors.
	checkValidate(t, make([]api.SeqOp, api.MaxOps+1), fault(api.ErrTooMany, -1))
	checkValidate(t, slices.Repeat(operations("a1"), api.MaxOps+1), fault(api.ErrTooMany, -1))
	checkValidate(t, deletions(1000), fault(api.ErrTooMany, -1))
}

// numbersOutOfRange are counters and replicas of which one is out of its range.
func numbersOutOfRange() [][2]int {
	return [][2]int{
		{0, 0}, {0, 1}, {0, 5}, {-1, 0}, {math.MinInt, 0}, {api.MaxValue + 1, 0}, {math.MaxInt, 5},
		{1, -1}, {1, api.MaxReplicas}, {1, math.MinInt}, {1, math.MaxInt}, {api.MaxValue, api.MaxReplicas}, {0, -1},
	}
}

func TestElementOutOfRange(t *testing.T) {
	for _, e := range numbersOutOfRange() {
		checkValidate(t, []api.SeqOp{{Counter: e[0], Replica: e[1]}}, fault(api.ErrRange, 0))
		checkValidate(t, []api.SeqOp{{Delete: true, Counter: e[0], Replica: e[1]}}, fault(api.ErrRange, 0))
		checkValidate(t, append(chain(4), api.SeqOp{Counter: e[0], Replica: e[1]}), fault(api.ErrRange, 4))
		checkValidate(t, append(chain(4), api.SeqOp{Delete: true, Counter: e[0], Replica: e[1]}), fault(api.ErrRange, 4))
	}
}

func TestDeletionsHaveOnlyAnElement(t *testing.T) {
	for _, op := range []api.SeqOp{
		{AfterCounter: 1}, {AfterReplica: 1}, {AfterCounter: -1}, {AfterReplica: -1}, {AfterCounter: 1, AfterReplica: 1},
		{Line: "x"}, {Line: newLine}, {Line: "\n"}, {Line: "\x00"}, {AfterCounter: 1, Line: "x"},
		// This comes before the other errors of these fields.
		{AfterCounter: math.MaxInt}, {AfterReplica: api.MaxReplicas}, {AfterCounter: 2}, {Line: tooLong},
	} {
		op.Delete, op.Counter = true, 2
		checkValidate(t, []api.SeqOp{{Counter: 1}, {Counter: 2}, op}, fault(api.ErrMalformed, 2))
		checkValidate(t, []api.SeqOp{op}, fault(api.ErrMalformed, 0))
	}
}

func TestPredecessorOutOfRange(t *testing.T) {
	for _, e := range numbersOutOfRange()[1:] {
		op := api.SeqOp{Counter: 2, Replica: 1, AfterCounter: e[0], AfterReplica: e[1]}
		checkValidate(t, []api.SeqOp{op}, fault(api.ErrRange, 0))
		checkValidate(t, append(chain(1), op), fault(api.ErrRange, 1))
	}
}

func TestElementsFollowSmallerOnes(t *testing.T) {
	for _, text := range []string{"a1/a1", "a1/b1", "a1/a2", "b1/f1", "f1/a2", "a2/f9", "f9/f9", "e9/f9"} {
		checkValidate(t, operations(text), fault(api.ErrMalformed, 0))
		checkValidate(t, append(operations("a3 b2"), operation(text)), fault(api.ErrMalformed, 2))
	}
	// Two elements cannot follow each other.
	checkValidate(t, operations("a2/b2 b2/a2"), fault(api.ErrMalformed, 0))
	checkValidate(t, operations("b2/a2 a2/b2"), fault(api.ErrMalformed, 1))
}

func TestInsertedLines(t *testing.T) {
	for _, line := range []string{tooLong, newLine, "\n", longest + "\n", "", " ", longest, strings.Repeat("€", 27)} {
		code := lines.Validate([]string{line}).Code
		want := api.Fault{}
		if code != api.OK {
			want = fault(code, 1)
		}
		checkValidate(t, []api.SeqOp{{Counter: 1}, {Counter: 2, Line: line}, {Counter: 3}}, want)
	}
}

func TestOperationsOfSameElement(t *testing.T) {
	for _, c := range []struct {
		text  string
		index int
	}{
		{"a1 a1", 1},
		{"a1=x a1=y", 1},
		{"a1 b1 a2/a1 a2/b1", 3},
		{"a1 a2/a1 a2", 2},
		{"a1 -a1 -a1", 2},
		{"-a1 a1 -a1", 2},
		{"a1 -a1 a1", 2},
		{"-a1 a1 a1 -a1", 2},
		{"-a1 a1 -a1 a1", 2},
		{"b1 a1 c1 b2 b1 a1", 4},
		// An element that nothing inserts is found later.
		{"-a1 -a1", 1},
		{"-b1 a2/c1 a1 a1", 3},
		{"a2/a1 a2/a1", 1},
	} {
		checkValidate(t, operations(c.text), fault(api.ErrExists, c.index))
	}
}

func TestElementsThatNothingInserts(t *testing.T) {
	for _, c := range []struct {
		text  string
		index int
	}{
		{"-a1", 0},
		{"a2/a1", 0},
		{"a1 -b1", 1},
		{"a1 -a2", 1},
		{"a1 b1 a2/c1", 2},
		{"a1 a3/a2", 1},
		{"b1 b2/a1", 1},
		{"a1 a2/b1 -c1", 1},
		{"a1 -c1 a2/b1", 1},
		// A deletion does not insert its element.
		{"a2/a1 -a1", 0},
		{"-a1 a2/a1", 0},
		{"b1 a2/a1 -a1", 1},
		{"b1 -a1 a2/a1", 1},
	} {
		checkValidate(t, operations(c.text), fault(api.ErrNotFound, c.index))
	}
	full := chain(api.MaxOps)
	full[api.MaxOps-1] = operation("-b1")
	checkValidate(t, full, fault(api.ErrNotFound, api.MaxOps-1))
	checkValidate(t, full[1:api.MaxOps-1], fault(api.ErrNotFound, 0))
}

func TestOrderOfErrorsOfOneOperation(t *testing.T) {
	for _, c := range []struct {
		op   api.SeqOp
		code int
	}{
		{api.SeqOp{Delete: true, Counter: 0, Line: "x"}, api.ErrRange},
		{api.SeqOp{Delete: true, Counter: 1, Replica: -1, AfterCounter: 1}, api.ErrRange},
		{api.SeqOp{Counter: 0, AfterCounter: 1}, api.ErrRange},
		{api.SeqOp{Counter: 1, Replica: 6, Line: newLine}, api.ErrRange},
		{api.SeqOp{Delete: true, Counter: 1, Line: "x"}, api.ErrMalformed},
		{api.SeqOp{Counter: 1, AfterCounter: api.MaxValue + 1}, api.ErrRange},
		{api.SeqOp{Counter: 2, AfterCounter: 2, AfterReplica: 6}, api.ErrRange},
		{api.SeqOp{Counter: 2, AfterReplica: 1, Line: newLine}, api.ErrRange},
		{api.SeqOp{Counter: 1, AfterCounter: -1}, api.ErrRange},
		{api.SeqOp{Counter: 2, AfterCounter: 2, Line: tooLong}, api.ErrMalformed},
		{api.SeqOp{Counter: 1, AfterCounter: 1}, api.ErrMalformed},
		{api.SeqOp{Counter: 1, Line: tooLong}, api.ErrTooMany},
		{api.SeqOp{Counter: 1, Line: longest + "\n"}, api.ErrTooMany},
		{api.SeqOp{Counter: 1, Line: newLine}, api.ErrMalformed},
		{api.SeqOp{Counter: 2, AfterCounter: 1, AfterReplica: 1, Line: tooLong}, api.ErrTooMany},
	} {
		// The elements with counter 1 of the first replica are there already, too.
		checkValidate(t, append(operations("a1 -a1"), c.op), fault(c.code, 2))
	}
}

func TestFirstInvalidOperationDecides(t *testing.T) {
	list := []api.SeqOp{
		{Counter: -1},
		{Delete: true, Counter: 1, Line: "x"},
		{Counter: 2, AfterReplica: 1},
		{Counter: 2, AfterCounter: 2},
		{Counter: 2, Line: tooLong},
		{Counter: 2, Line: newLine},
		{Counter: 1},
	}
	codes := []int{
		api.ErrRange, api.ErrMalformed, api.ErrRange, api.ErrMalformed, api.ErrTooMany, api.ErrMalformed, api.ErrExists,
	}
	for i, first := range list {
		for _, second := range list {
			// What no operation inserts counts only where all operations are valid by themselves.
			ops := append(operations("-f1 a1 e5/d4"), first, second)
			checkValidate(t, ops, fault(codes[i], 3))
		}
	}
}

func TestValidateOfSmallSetsFollowsDefinition(t *testing.T) {
	from := operations("a1 a1=x b1 b1/a1 a2 a2/a1 a2/b1 b2/a2 a3/a2 -a1 -b1 -a2 a1/a1 a1/b1 a0 a1/b0 b1/a0 g1")
	from = append(from,
		api.SeqOp{Counter: 1, Replica: -1},
		api.SeqOp{Counter: 2, AfterCounter: 1, AfterReplica: -1},
		api.SeqOp{Counter: 1, Line: tooLong},
		api.SeqOp{Counter: 2, AfterCounter: 3, Line: newLine},
		api.SeqOp{Delete: true, Counter: 1, Line: "a1"},
		api.SeqOp{Delete: true, Counter: 2, AfterCounter: 1},
		api.SeqOp{Delete: true, Counter: 1, Replica: 6},
	)
	valid := 0
	for _, ops := range lists(3, from) {
		want := validate(ops)
		if want == (api.Fault{}) {
			valid++
		}
		checkValidate(t, ops, want)
	}
	if valid < 100 {
		t.Errorf("only %d sets are valid", valid)
	}
}

func TestEditedSetsAreValid(t *testing.T) {
	random := rand.New(rand.NewSource(1))
	for range 200 {
		for _, s := range editedSites(t, random, api.MaxOps) {
			checkValidate(t, shuffled(random, s.ops), api.Fault{})
		}
	}
}

func TestBrokenSetsFollowDefinition(t *testing.T) {
	random := rand.New(rand.NewSource(2))
	codes := map[int]int{}
	for range 3000 {
		sites := editedSites(t, random, api.MaxOps)
		ops := shuffled(random, sites[0].ops)
		if len(ops) == 0 {
			continue
		}
		for range 1 + random.Intn(2) {
			breakOne(random, ops)
		}
		want := validate(ops)
		codes[want.Code]++
		checkValidate(t, ops, want)
	}
	for _, code := range []int{api.OK, api.ErrRange, api.ErrMalformed, api.ErrTooMany, api.ErrExists, api.ErrNotFound} {
		if codes[code] < 50 {
			t.Errorf("only %d sets have the code %d", codes[code], code)
		}
	}
}

// breakOne changes one operation of a set.
func breakOne(random *rand.Rand, ops []api.SeqOp) {
	op := &ops[random.Intn(len(ops))]
	switch random.Intn(7) {
	case 0:
		op.Delete = !op.Delete
	case 1:
		op.Counter = []int{0, 1, 2, api.MaxValue, api.MaxValue + 1}[random.Intn(5)]
	case 2:
		op.Replica = random.Intn(8) - 1
	case 3:
		op.AfterCounter = op.Counter + random.Intn(5) - 3
	case 4:
		op.AfterReplica = random.Intn(8) - 1
	case 5:
		op.Line = []string{"x", longest, tooLong, newLine}[random.Intn(4)]
	default:
		*op = ops[random.Intn(len(ops))]
	}
}

// R9.2

func TestExampleOfVisible(t *testing.T) {
	checkVisible(t, []api.SeqOp{{Counter: 1, Line: "a"}, {Counter: 2, Line: "b"}}, words("b a"), api.Fault{})
}

func TestVisibleValues(t *testing.T) {
	for _, c := range []struct{ ops, want string }{
		{"", ""},
		{"a1", "a1"},
		{"a1 a2", "a2 a1"},
		{"a2 a1", "a2 a1"},
		{"a1 a2/a1", "a1 a2"},
		{"a2/a1 a1", "a1 a2"},
		// The greatest of the elements after the same one comes first: by its counter, then by its replica.
		{"a1 b1", "b1 a1"},
		{"f1 a2", "a2 f1"},
		{"b2 a10 c1", "a10 b2 c1"},
		{"a1 a2/a1 a3/a1", "a1 a3 a2"},
		{"a1 b2/a1 a2/a1 f1/a1 a3/a1", "a1 a3 b2 a2 f1"},
		// What follows an element comes before the next element after the same one.
		{"a1 a2 a3/a2 a4/a1", "a2 a3 a1 a4"},
		{"a1 a2/a1 a3/a2 a4/a1", "a1 a4 a2 a3"},
		{"a1 b1/a1 c1/a1 d1/b1 e1/a1 f1/d1", "a1 e1 c1 b1 d1 f1"},
		{"a1 a2 a3/a1 a4/a2 a5/a3 a6/a4 a7", "a7 a2 a4 a6 a1 a3 a5"},
		// A smaller element after a greater one's neighbour stays behind it, however great its followers are.
		{"a1 a2/a1 a3/a1 a9/a2", "a1 a3 a2 a9"},
	} {
		checkVisible(t, operations(c.ops), words(c.want), api.Fault{})
	}
}

func TestDeletedElementsAreHidden(t *testing.T) {
	for _, c := range []struct{ ops, want string }{
		{"a1 -a1", ""},
		{"-a1 a1", ""},
		{"a1 a2 -a1", "a2"},
		{"a1 a2 -a2", "a1"},
		{"a1 b1 -b1", "a1"},
		{"-b1 a1 b1 c1", "c1 a1"},
		// They still have their place, and what was inserted after them is visible.
		{"a1 a2/a1 -a1", "a2"},
		{"a1 a2/a1 a3/a2 -a2", "a1 a3"},
		{"a1 a2/a1 a3/a1 a4/a3 a5/a2 -a1 -a2 -a3", "a4 a5"},
		{"a1 a2 a3/a1 a4/a2 -a1 -a2", "a4 a3"},
		{"a1 a2/a1 -a1 -a2 a3/a2", "a3"},
		{"a1 a2/a1 -a1 -a2", ""},
		// Only the element counts, not its line.
		{"a1=x a2=x -a1", "x"},
		{"a1=x b1=y -a1", "y"},
	} {
		checkVisible(t, operations(c.ops), words(c.want), api.Fault{})
	}
}

func TestLinesOfElements(t *testing.T) {
	checkVisible(t, operations("a1=x a2/a1=x b2/a1=y"), words("x y x"), api.Fault{})
	checkVisible(t, operations("a1= a2= a3/a1=x"), []string{"", "", "x"}, api.Fault{})
	odd := []string{longest, " ", "\x00\xff", "€"}
	var ops []api.SeqOp
	for i, line := range odd {
		ops = append(ops, api.SeqOp{Counter: i + 1, AfterCounter: i, Line: line})
	}
	checkVisible(t, ops, odd, api.Fault{})
}

func TestVisibleOfSmallSetsFollowsDefinition(t *testing.T) {
	random := rand.New(rand.NewSource(3))
	for _, names := range []string{"a1 b1 a2 c2 b3", "a1 a2 a3 a4 a5", "b1 c1 d1 e1 f1", "f1 e2 d3 c4 b5"} {
		for _, insertions := range forests(words(names)) {
			for _, ops := range withDeletions(insertions) {
				checkVisible(t, shuffled(random, ops), visibleLines(ops), api.Fault{})
			}
		}
	}
}

func TestVisibleOfEditedSetsFollowsDefinition(t *testing.T) {
	random := rand.New(rand.NewSource(4))
	large := 0
	for range 500 {
		for _, s := range editedSites(t, random, api.MaxOps) {
			want := visibleLines(s.ops)
			checkVisible(t, s.ops, want, api.Fault{})
			checkVisible(t, shuffled(random, s.ops), want, api.Fault{})
			if len(want) > 20 {
				large++
			}
		}
	}
	if large < 100 {
		t.Errorf("only %d sets have more than 20 visible lines", large)
	}
}

func TestEditsAppearWhereTheyAreMade(t *testing.T) {
	random := rand.New(rand.NewSource(5))
	for range 500 {
		s := site{replica: random.Intn(api.MaxReplicas)}
		var want []string
		for n := range api.MaxOps {
			line := strconv.Itoa(n)
			op := s.insert(random, line)
			// Nothing has been deleted, so the lines are the elements.
			at := slices.IndexFunc(s.ops, func(other api.SeqOp) bool { return slices.Equal(own(other), after(op)) })
			if at >= 0 {
				at = slices.Index(want, s.ops[at].Line)
			}
			want = slices.Insert(want, at+1, line)
		}
		checkVisible(t, s.ops, want, api.Fault{})
	}
}

func TestVisibleAtLimits(t *testing.T) {
	var forward, backward []string
	var flat []api.SeqOp
	for i := range api.MaxOps {
		forward = append(forward, strconv.Itoa(i))
		backward = append(backward, strconv.Itoa(api.MaxOps-1-i))
		flat = append(flat, api.SeqOp{Counter: i + 1, Line: strconv.Itoa(i)})
	}
	checkVisible(t, chain(api.MaxOps), forward, api.Fault{})
	checkVisible(t, flat, backward, api.Fault{})
	slices.Reverse(flat)
	checkVisible(t, flat, backward, api.Fault{})
	const half = api.MaxOps / 2
	checkVisible(t, append(chain(half), deletions(half)...), nil, api.Fault{})
	checkVisible(t, append(deletions(half-1), chain(half)...), forward[half-1:half], api.Fault{})
	const last, most = api.MaxReplicas - 1, api.MaxValue
	checkVisible(t, []api.SeqOp{
		{Counter: most, Line: "x"},
		{Counter: most, Replica: last, Line: "y"},
		{Counter: most, Replica: last - 1, AfterCounter: most, Line: "z"},
		{Counter: 1, Replica: last, Line: "w"},
	}, words("y x z w"), api.Fault{})
}

// R9.3

func TestExampleOfMerge(t *testing.T) {
	ops := operations("a3/a1 -a1 b2 a1 a2/a1")
	checkMerge(t, ops, ops, operations("a1 -a1 a2/a1 b2 a3/a1"), api.Fault{})
}

func TestMergeValues(t *testing.T) {
	for _, c := range []struct{ a, b, want string }{
		{"", "", ""},
		{"a1", "", "a1"},
		{"", "a1", "a1"},
		{"a1", "a1", "a1"},
		{"a2", "a1", "a1 a2"},
		{"a1", "a2", "a1 a2"},
		{"b1", "a1", "a1 b1"},
		{"f1", "a2", "f1 a2"},
		{"a2", "f1", "f1 a2"},
		{"a10", "a9", "a9 a10"},
		{"a2/a1 a1", "", "a1 a2/a1"},
		{"", "a2/a1 a1", "a1 a2/a1"},
		{"a1 a2/a1", "a1 b2/a1", "a1 a2/a1 b2/a1"},
		{"a1 b2/a1", "a1 a2/a1", "a1 a2/a1 b2/a1"},
		{"a1 a3 a5", "a2 a4 a6", "a1 a2 a3 a4 a5 a6"},
		// An insertion comes before the deletion of its element, and both before the next element.
		{"-a1 a1", "", "a1 -a1"},
		{"", "-a1 a1", "a1 -a1"},
		{"a1", "-a1 a1", "a1 -a1"},
		{"-a1 a1", "a1", "a1 -a1"},
		{"a1 -a1", "-a1 a1", "a1 -a1"},
		{"a2 -a2", "b1 -b1", "b1 -b1 a2 -a2"},
		{"a1 b1 -b1", "a1 b1 -a1", "a1 -a1 b1 -b1"},
		{"-b1 -a1 b1 a1", "-c1 c1", "a1 -a1 b1 -b1 c1 -c1"},
		{"a1=x -a1", "a1=x a2/a1=x", "a1=x -a1 a2/a1=x"},
	} {
		checkMerge(t, operations(c.a), operations(c.b), operations(c.want), api.Fault{})
	}
	checkMerge(t, []api.SeqOp{}, nil, nil, api.Fault{})
}

func TestConflicts(t *testing.T) {
	for _, c := range []struct {
		a, b  string
		index int
	}{
		{"a1=x", "a1=y", 0},
		{"a1", "a1=", 0},
		{"a1=", "a1", 0},
		{"a1=x", "a1=X", 0},
		{"b1 b2/b1", "b1 b2", 1},
		{"b1 b2", "b1 b2/b1", 1},
		{"a1 b1 c2/a1", "c2/b1 a1 b1", 0},
		{"a1 a2 a3/a1", "a1 a2 a3/a2", 2},
		{"a1 b1 a2/a1=x", "a1 b1 a2/b1=y", 2},
		// The first one of b counts. Its position counts all operations of b.
		{"a1=x a2=x", "a1=y a2=y", 0},
		{"a2=x a1=x", "a1=y a2=y", 0},
		{"a1=x a2=x", "a2=y a1=y", 0},
		{"a1=x a2=x", "a1=x a2=y", 1},
		{"a2=x", "a1 -a1 b1 -b1 a2=y", 4},
		{"a1=x a2", "a2 -a1 -a2 a1=y", 3},
		{"a1=x", "-a1 a1=y", 1},
		{"a1=x -a1", "-a1 a1=y", 1},
		{"a1=x", "b1=x c1=x a1=z a2/a1", 2},
	} {
		checkMerge(t, operations(c.a), operations(c.b), nil, fault(api.ErrConflict, c.index))
	}
}

func TestEqualElementsOfDifferentReplicas(t *testing.T) {
	checkMerge(t, operations("a1=x"), operations("b1=y"), operations("a1=x b1=y"), api.Fault{})
	checkMerge(t, operations("a1=x"), operations("a2=x"), operations("a1=x a2=x"), api.Fault{})
}

func TestSmallMergesFollowDefinition(t *testing.T) {
	var sets [][]api.SeqOp
	for _, ops := range lists(3, operations("a1 a1=x b1 b1/a1 a2 a2/a1 -a1 -b1 -a2")) {
		if Validate(ops) == (api.Fault{}) {
			sets = append(sets, ops)
		}
	}
	conflicts, unions := 0, 0
	for _, a := range sets {
		for _, b := range sets {
			want, wantFault := union(a, b)
			checkMerge(t, a, b, want, wantFault)
			if wantFault == (api.Fault{}) {
				unions++
			} else {
				conflicts++
			}
		}
	}
	if conflicts < 1000 || unions < 1000 {
		t.Errorf("only %d conflicts and %d unions", conflicts, unions)
	}
}

func TestLargeMergesFollowDefinition(t *testing.T) {
	random := rand.New(rand.NewSource(6))
	codes := map[int]int{}
	for range 1000 {
		sites := editedSites(t, random, api.MaxOps)
		a, b := sites[0], sites[len(sites)-1]
		// Two sites that take themselves for the same replica insert different lines as the same element.
		if random.Intn(2) == 0 {
			b.replica = a.replica
		}
		for n := range random.Intn(5) {
			a.insert(random, "a"+strconv.Itoa(n))
			b.insert(random, "b"+strconv.Itoa(n))
		}
		first, second := shuffled(random, a.ops), shuffled(random, b.ops)
		if len(sites) > 1 && max(len(first), len(second)) <= api.MaxOps {
			want, wantFault := union(first, second)
			codes[wantFault.Code]++
			checkMerge(t, first, second, want, wantFault)
		}
	}
	if codes[api.OK] < 100 || codes[api.ErrConflict] < 100 {
		t.Errorf("only %d unions and %d conflicts", codes[api.OK], codes[api.ErrConflict])
	}
}

func TestMergesConverge(t *testing.T) {
	random := rand.New(rand.NewSource(7))
	for range 300 {
		sites := editedSites(t, random, api.MaxOps)
		var all []api.SeqOp
		for _, s := range sites {
			all = merged(t, all, s.ops)
		}
		checkValidate(t, all, api.Fault{})
		text := visible(t, all)
		for range 3 {
			random.Shuffle(len(sites), func(i, j int) { sites[i], sites[j] = sites[j], sites[i] })
			var other, groups []api.SeqOp
			for i, s := range sites {
				other = merged(t, shuffled(random, s.ops), other)
				if i%2 > 0 {
					groups = merged(t, groups, merged(t, sites[i-1].ops, s.ops))
				}
			}
			groups = merged(t, sites[len(sites)-1].ops, groups)
			if !slices.Equal(all, other) || !slices.Equal(all, groups) {
				t.Fatalf("got %v, %v and %v", all, other, groups)
			}
			checkVisible(t, other, text, api.Fault{})
		}
		for _, s := range sites {
			checkMerge(t, all, s.ops, all, api.Fault{})
			checkMerge(t, s.ops, all, all, api.Fault{})
			checkMerge(t, s.ops, s.ops, inOrder(s.ops), api.Fault{})
		}
	}
}

func TestMergeAtLimits(t *testing.T) {
	full := chain(api.MaxOps)
	checkMerge(t, full, full, full, api.Fault{})
	checkMerge(t, full, nil, full, api.Fault{})
	checkMerge(t, nil, full, full, api.Fault{})
	checkMerge(t, full[:40], full, full, api.Fault{})
	checkMerge(t, full, full[:40], full, api.Fault{})
	half := full[:api.MaxOps/2]
	removals := append(slices.Clone(half), deletions(api.MaxOps/2)...)
	checkMerge(t, half, removals, inOrder(removals), api.Fault{})
	const last, most = api.MaxReplicas - 1, api.MaxValue
	a := []api.SeqOp{{Counter: most, Replica: last, Line: longest}, {Counter: 1}}
	b := []api.SeqOp{{Counter: most}, {Counter: 1, Replica: last}}
	checkMerge(t, a, b, []api.SeqOp{a[1], b[1], b[0], a[0]}, api.Fault{})
}

func TestMergeTooLarge(t *testing.T) {
	full, other := chain(api.MaxOps), operations("b1")
	removals := append(chain(1), deletions(1)...)
	want := fault(api.ErrTooLarge, -1)
	checkMerge(t, full, other, nil, want)
	checkMerge(t, other, full, nil, want)
	checkMerge(t, full, removals, nil, want)
	checkMerge(t, removals, full, nil, want)
	half := chain(api.MaxOps / 2)
	var others []api.SeqOp
	for _, op := range half {
		op.Counter += api.MaxOps
		op.AfterCounter = 0
		others = append(others, op)
	}
	checkMerge(t, half, others, append(slices.Clone(half), others...), api.Fault{})
	checkMerge(t, half, append(others, other...), nil, want)
	checkMerge(t, append(half, other...), others, nil, want)
	// A conflict comes first, wherever it is.
	different := append(operations("b1 c1 d1"), api.SeqOp{Counter: 1, Line: "x"})
	checkMerge(t, full, different, nil, fault(api.ErrConflict, 3))
	checkMerge(t, different, full, nil, fault(api.ErrConflict, 0))
}

// Errors of all functions

// An invalidSet has the error of Validate with this fault.
type invalidSet struct {
	ops   []api.SeqOp
	fault api.Fault
}

func invalidSets() []invalidSet {
	return []invalidSet{
		{chain(api.MaxOps + 1), fault(api.ErrTooMany, -1)},
		{slices.Repeat([]api.SeqOp{{Counter: 1, Line: tooLong}}, api.MaxOps+1), fault(api.ErrTooMany, -1)},
		{operations("a0"), fault(api.ErrRange, 0)},
		{operations("a1 g1"), fault(api.ErrRange, 1)},
		{operations("a1 b2/a0 b3/b0"), fault(api.ErrRange, 2)},
		{[]api.SeqOp{{Counter: 1}, {Delete: true, Counter: 1, Line: "a1"}}, fault(api.ErrMalformed, 1)},
		{operations("a1 a2/a1 a3/a3"), fault(api.ErrMalformed, 2)},
		{[]api.SeqOp{{Counter: 1}, {Counter: 2}, {Counter: 3, Line: tooLong}}, fault(api.ErrTooMany, 2)},
		{[]api.SeqOp{{Counter: 2}, {Counter: 1, Line: newLine}}, fault(api.ErrMalformed, 1)},
		{operations("a1 a1"), fault(api.ErrExists, 1)},
		{operations("a1 -a1 -a1"), fault(api.ErrExists, 2)},
		{operations("a1 a3/a2"), fault(api.ErrNotFound, 1)},
		{operations("a1=x -a1 b1 -a2"), fault(api.ErrNotFound, 3)},
	}
}

func TestInvalidSets(t *testing.T) {
	for _, c := range invalidSets() {
		checkValidate(t, c.ops, c.fault)
		checkVisible(t, c.ops, nil, c.fault)
	}
}

func TestErrorsOfMerge(t *testing.T) {
	for _, c := range invalidSets() {
		// This comes before conflicts, and before the size of the result.
		for _, valid := range [][]api.SeqOp{nil, operations("b1"), operations("a1=y"), chain(api.MaxOps)} {
			checkMerge(t, c.ops, valid, nil, c.fault)
			checkMerge(t, valid, c.ops, nil, fault(c.fault.Code, -2))
		}
		for _, second := range invalidSets() {
			checkMerge(t, c.ops, second.ops, nil, c.fault)
		}
	}
	// Each set has to be valid by itself, even where the other one inserts what it needs.
	checkMerge(t, operations("-a1"), operations("a1"), nil, fault(api.ErrNotFound, 0))
	checkMerge(t, operations("a1"), operations("-a1"), nil, fault(api.ErrNotFound, -2))
	checkMerge(t, operations("a1"), operations("a2/a1"), nil, fault(api.ErrNotFound, -2))
}

// Memory of all functions

func TestArgumentsStay(t *testing.T) {
	memory := operations("a3/a1 -a1 a1 c9 b2 -b2 a3/a1 a1 d9")
	before := slices.Clone(memory)
	a, b := memory[:3], memory[4:8]
	checkValidate(t, a, api.Fault{})
	checkVisible(t, a, words("a3"), api.Fault{})
	// The second set lies in the spare capacity of the first one.
	checkMerge(t, a, b, operations("a1 -a1 b2 -b2 a3/a1"), api.Fault{})
	checkMerge(t, b, a, operations("a1 -a1 b2 -b2 a3/a1"), api.Fault{})
	checkMerge(t, a, nil, operations("a1 -a1 a3/a1"), api.Fault{})
	checkMerge(t, a[:0], b[:0], nil, api.Fault{})
	checkVisible(t, memory[:2], nil, fault(api.ErrNotFound, 0))
	if !slices.Equal(memory, before) {
		t.Errorf("the operations became %v", memory)
	}
}

func TestResultsAreNewMemory(t *testing.T) {
	memory := operations("a1 -a1 b2 c3/b2 d9")
	a, b := memory[:2], memory[2:4]
	sets := [][]api.SeqOp{memory}
	var texts [][]string
	for range 2 {
		for _, pair := range [][2][]api.SeqOp{{a, b}, {b, a}, {a, a}, {a, nil}, {nil, b}, {memory[:4], b}, {a, memory[:4]}} {
			sets = append(sets, merged(t, pair[0], pair[1]))
		}
		texts = append(texts, visible(t, b), visible(t, memory[:4]))
	}
	for _, set := range sets {
		if len(set) == 0 {
			t.Fatal("a set is empty")
		}
	}
	if samples.Shared(sets...) || samples.Shared(texts...) {
		t.Error("the results share memory with each other or with the arguments")
	}
}
