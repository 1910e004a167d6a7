package multivalue

import (
	"fmt"
	"maps"
	"math"
	"math/rand"
	"slices"
	"strconv"
	"strings"
	"testing"

	"changeforge/api"
	"changeforge/samples"
)

const most, replicas = api.MaxValue, api.MaxReplicas

var fault, words = samples.Fault, samples.Words

// register returns values that are written in one line: 7:02 has the value 7 and the vector [0 2 0 0 0 0]. Each number of a vector is a digit.
func register(text string) []api.VersionedValue {
	var values []api.VersionedValue
	for _, word := range words(text) {
		before, digits, _ := strings.Cut(word, ":")
		value, err := strconv.Atoi(before)
		if err != nil {
			panic(err)
		}
		var numbers []int
		for _, digit := range digits {
			numbers = append(numbers, int(digit-'0'))
		}
		values = append(values, api.VersionedValue{Value: value, Vector: vector(numbers...)})
	}
	return values
}

// vector returns a vector with the given numbers, and zeros behind them.
func vector(numbers ...int) []int {
	return append(numbers, make([]int, replicas-len(numbers))...)
}

// concurrent returns a register of n values, each of which has the same value.
func concurrent(value, n int) []api.VersionedValue {
	var values []api.VersionedValue
	for i := range n {
		values = append(values, api.VersionedValue{Value: value, Vector: vector(i+1, n-i)})
	}
	return values
}

func equalValues(v, w api.VersionedValue) bool {
	return v.Value == w.Value && slices.Equal(v.Vector, w.Vector)
}

func equal(a, b []api.VersionedValue) bool { return slices.EqualFunc(a, b, equalValues) }

// copied returns a copy of a register that shares no memory with it.
func copied(values []api.VersionedValue) []api.VersionedValue {
	var copies []api.VersionedValue
	for _, v := range values {
		copies = append(copies, api.VersionedValue{Value: v.Value, Vector: slices.Clone(v.Vector)})
	}
	return copies
}

func checkValidate(t *testing.T, values []api.VersionedValue, want api.Fault) {
	t.Helper()
	if got := Validate(values); got != want {
		t.Errorf("Validate(%v): got %v, want %v", values, got, want)
	}
}

func checkWrite(t *testing.T, values []api.VersionedValue, replica, value int, want []api.VersionedValue, wantFault api.Fault) {
	t.Helper()
	got, gotFault := Write(values, replica, value)
	if !equal(got, want) || gotFault != wantFault {
		t.Errorf("Write(%v, %d, %d): got %v %v, want %v %v", values, replica, value, got, gotFault, want, wantFault)
	}
}

func checkMerge(t *testing.T, a, b, want []api.VersionedValue, wantFault api.Fault) {
	t.Helper()
	got, gotFault := Merge(a, b)
	if !equal(got, want) || gotFault != wantFault {
		t.Errorf("Merge(%v, %v): got %v %v, want %v %v", a, b, got, gotFault, want, wantFault)
	}
}

// written returns the register after a write that is possible.
func written(t *testing.T, values []api.VersionedValue, replica, value int) []api.VersionedValue {
	t.Helper()
	after, f := Write(values, replica, value)
	if f != (api.Fault{}) {
		t.Fatalf("Write(%v, %d, %d): got %v", values, replica, value, f)
	}
	return after
}

// merged returns what two registers that can be merged become.
func merged(t *testing.T, a, b []api.VersionedValue) []api.VersionedValue {
	t.Helper()
	values, f := Merge(a, b)
	if f != (api.Fault{}) {
		t.Fatalf("Merge(%v, %v): got %v", a, b, f)
	}
	return values
}

// The definitions, followed with vectors that are written as texts and with greatest numbers.

// name returns a text for a vector. Texts of vectors are ordered as the vectors are.
func name(vector []int) string {
	text := ""
	for _, number := range vector {
		text += fmt.Sprintf("%010d,", number)
	}
	return text
}

// greatest returns the greatest numbers of several vectors at each position.
func greatest(vectors ...[]int) []int {
	result := vector()
	for position := range result {
		var numbers []int
		for _, v := range vectors {
			numbers = append(numbers, v[position])
		}
		result[position] = slices.Max(append(numbers, 0))
	}
	return result
}

// includes tells whether a vector covers another one.
func includes(v, w []int) bool { return slices.Equal(greatest(v, w), v) }

func validate(values []api.VersionedValue) api.Fault {
	if len(values) > api.MaxVersions {
		return fault(api.ErrTooMany, -1)
	}
	for i, v := range values {
		if code := validateValue(v, values[:i]); code != api.OK {
			return fault(code, i)
		}
	}
	return api.Fault{}
}

func validateValue(v api.VersionedValue, earlier []api.VersionedValue) int {
	if v.Value < 0 || most < v.Value {
		return api.ErrRange
	}
	if len(v.Vector) != 6 {
		return api.ErrLength
	}
	if slices.Min(v.Vector) < 0 || slices.Max(v.Vector) > most {
		return api.ErrRange
	}
	if slices.Equal(v.Vector, vector()) {
		return api.ErrMalformed
	}
	if len(earlier) > 0 && name(earlier[len(earlier)-1].Vector) >= name(v.Vector) {
		return api.ErrMalformed
	}
	for _, e := range earlier {
		if includes(v.Vector, e.Vector) || includes(e.Vector, v.Vector) {
			return api.ErrConflict
		}
	}
	return api.OK
}

// write returns a valid register after a write of a replica that can make one.
func write(values []api.VersionedValue, replica, value int) []api.VersionedValue {
	var vectors [][]int
	for _, v := range values {
		vectors = append(vectors, v.Vector)
	}
	next := greatest(vectors...)
	next[replica] = next[replica] + 1
	return []api.VersionedValue{{Value: value, Vector: next}}
}

// merge merges two valid registers.
func merge(a, b []api.VersionedValue) ([]api.VersionedValue, api.Fault) {
	all := map[string]api.VersionedValue{}
	for _, v := range a {
		all[name(v.Vector)] = v
	}
	for i, v := range b {
		known, found := all[name(v.Vector)]
		if found && known.Value != v.Value {
			return nil, fault(api.ErrConflict, i)
		}
		all[name(v.Vector)] = v
	}
	var rest []api.VersionedValue
	for _, key := range slices.Sorted(maps.Keys(all)) {
		superseded := false
		for other, w := range all {
			superseded = superseded || other != key && includes(w.Vector, all[key].Vector)
		}
		if !superseded {
			rest = append(rest, all[key])
		}
	}
	if len(rest) > api.MaxVersions {
		return nil, fault(api.ErrTooLarge, -1)
	}
	return rest, api.Fault{}
}

// lists returns all lists of at most n of the given values.
func lists(n int, from []api.VersionedValue) [][]api.VersionedValue {
	all := [][]api.VersionedValue{{}}
	last := all
	for range n {
		var next [][]api.VersionedValue
		for _, list := range last {
			for _, v := range from {
				next = append(next, append(slices.Clone(list), v))
			}
		}
		all = append(all, next...)
		last = next
	}
	return all
}

// randomRegister returns a valid register with at most n values whose numbers are less than size. Values are made from the vectors unless there are several kinds of values.
func randomRegister(random *rand.Rand, n, size, kinds int) []api.VersionedValue {
	byName := map[string]api.VersionedValue{}
	for range n {
		v := api.VersionedValue{Vector: vector()}
		for i := range v.Vector {
			v.Vector[i] = random.Intn(size)
			v.Value = (v.Value*size + v.Vector[i]) % most
		}
		if kinds > 1 {
			v.Value = random.Intn(kinds)
		}
		apart := !slices.Equal(v.Vector, vector())
		for _, w := range byName {
			apart = apart && !includes(v.Vector, w.Vector) && !includes(w.Vector, v.Vector)
		}
		if apart {
			byName[name(v.Vector)] = v
		}
	}
	var values []api.VersionedValue
	for _, key := range slices.Sorted(maps.Keys(byName)) {
		values = append(values, byName[key])
	}
	return values
}

// A site writes to its copy of a register. It knows writes by their values, all of which differ.
type site struct {
	replica  int
	register []api.VersionedValue
	known    map[int]bool
}

// A run is a history of several sites. It records what was known at each write.
type run struct {
	sites  []site
	before map[int]map[int]bool
}

// randomRun returns a history of some writes and exchanges.
func randomRun(t *testing.T, random *rand.Rand, events int) run {
	t.Helper()
	r := run{before: map[int]map[int]bool{}}
	for i := range 1 + random.Intn(replicas) {
		r.sites = append(r.sites, site{replica: i, known: map[int]bool{}})
	}
	for event := range events {
		s, other := &r.sites[random.Intn(len(r.sites))], r.sites[random.Intn(len(r.sites))]
		if random.Intn(2) == 0 {
			r.before[event] = maps.Clone(s.known)
			s.known[event] = true
			s.register = written(t, s.register, s.replica, event)
		} else {
			maps.Copy(s.known, other.known)
			s.register = merged(t, s.register, other.register)
		}
	}
	return r
}

// current returns the known writes that were not known at another known one, in increasing order.
func (r run) current(known map[int]bool) []int {
	rest := maps.Clone(known)
	for w := range known {
		for earlier := range r.before[w] {
			delete(rest, earlier)
		}
	}
	return slices.Sorted(maps.Keys(rest))
}

// valuesOf returns the values of a register in increasing order.
func valuesOf(values []api.VersionedValue) []int {
	var numbers []int
	for _, v := range values {
		numbers = append(numbers, v.Value)
	}
	return slices.Sorted(slices.Values(numbers))
}

// R10.1

func TestExampleOfValidate(t *testing.T) {
	checkValidate(t, nil, api.Fault{})
	checkValidate(t, []api.VersionedValue{}, api.Fault{})
}

func TestValidRegisters(t *testing.T) {
	for _, text := range []string{
		"0:1",
		"7:000001",
		"7:123456",
		"1:01 2:1",
		"1:000001 2:00001 3:0001 4:001 5:01 6:1",
		"1:012 2:021 3:102 4:12 5:201 6:21",
		"1:111119 2:111128 3:111911 4:19",
		// Vectors can be far apart without covering each other.
		"1:000001 2:99999",
		"1:099999 2:1",
		// Values can be equal, and have no order.
		"1:02 1:11 1:2",
		"9:02 0:11 5:2",
	} {
		checkValidate(t, register(text), api.Fault{})
	}
}

func TestValidateAtLimits(t *testing.T) {
	checkValidate(t, concurrent(most, api.MaxVersions), api.Fault{})
	checkValidate(t, []api.VersionedValue{{Value: most, Vector: slices.Repeat([]int{most}, replicas)}}, api.Fault{})
	checkValidate(t, []api.VersionedValue{{Vector: vector(0, most, most, most, most, most)}}, api.Fault{})
	checkValidate(t, []api.VersionedValue{
		{Value: most, Vector: vector(0, most, most, most, most, most)},
		{Value: 0, Vector: vector(most-1, most, most, most, most, most-1)},
		{Value: most, Vector: vector(most, most, most, most, most-1, most-1)},
		{Value: 1, Vector: vector(most, most, most, most, most)},
	}, api.Fault{})
}

func TestTooManyValues(t *testing.T) {
	checkValidate(t, concurrent(1, api.MaxVersions+1), fault(api.ErrTooMany, -1))
	checkValidate(t, concurrent(1, 1000), fault(api.ErrTooMany, -1))
	// Their number comes before all other errors.
	checkValidate(t, make([]api.VersionedValue, api.MaxVersions+1), fault(api.ErrTooMany, -1))
	checkValidate(t, concurrent(-1, api.MaxVersions+1), fault(api.ErrTooMany, -1))
	checkValidate(t, slices.Repeat(register("1:1"), api.MaxVersions+1), fault(api.ErrTooMany, -1))
}

// numbersOutOfRange are no values, and no numbers of a vector.
func numbersOutOfRange() []int {
	return []int{-1, math.MinInt, most + 1, math.MaxInt, -most}
}

func TestValueOutOfRange(t *testing.T) {
	for _, value := range numbersOutOfRange() {
		checkValidate(t, []api.VersionedValue{{Value: value, Vector: vector(1)}}, fault(api.ErrRange, 0))
		v := api.VersionedValue{Value: value, Vector: vector(1, 1)}
		checkValidate(t, append(register("1:02"), v), fault(api.ErrRange, 1))
	}
}

func TestVectorOfOtherLength(t *testing.T) {
	for _, length := range []int{0, 1, replicas - 1, replicas + 1, 2 * replicas} {
		v := api.VersionedValue{Value: 1, Vector: slices.Repeat([]int{1}, length)}
		checkValidate(t, []api.VersionedValue{v}, fault(api.ErrLength, 0))
		checkValidate(t, append(register("1:02"), v), fault(api.ErrLength, 1))
	}
	checkValidate(t, []api.VersionedValue{{}}, fault(api.ErrLength, 0))
}

func TestVectorOutOfRange(t *testing.T) {
	for _, number := range numbersOutOfRange() {
		for position := range replicas {
			v := api.VersionedValue{Value: 1, Vector: vector(5, 5)}
			v.Vector[position] = number
			checkValidate(t, []api.VersionedValue{v}, fault(api.ErrRange, 0))
			checkValidate(t, append(register("1:02 2:11"), v), fault(api.ErrRange, 2))
		}
	}
}

func TestVectorsOfZeros(t *testing.T) {
	checkValidate(t, register("1:"), fault(api.ErrMalformed, 0))
	checkValidate(t, register("0:000000 1:1"), fault(api.ErrMalformed, 0))
	checkValidate(t, register("1:1 1:"), fault(api.ErrMalformed, 1))
}

func TestOrderOfVectors(t *testing.T) {
	for _, c := range []struct {
		text  string
		index int
	}{
		{"1:1 1:1", 1},
		{"1:1 2:1", 1},
		{"1:1 2:01", 1},
		{"1:000002 2:000001", 1},
		{"1:2 2:11", 1},
		{"1:02 2:11 3:11", 2},
		{"1:02 2:2 3:11", 2},
		{"1:02 2:11 3:02", 2},
		{"1:02 2:11 3:2 4:01", 3},
		{"1:999999 2:1", 1},
	} {
		checkValidate(t, register(c.text), fault(api.ErrMalformed, c.index))
	}
	full := concurrent(1, api.MaxVersions)
	full[api.MaxVersions-1] = full[api.MaxVersions-2]
	checkValidate(t, full, fault(api.ErrMalformed, api.MaxVersions-1))
}

func TestVectorsThatCoverOthers(t *testing.T) {
	for _, c := range []struct {
		text  string
		index int
	}{
		{"1:1 2:2", 1},
		{"1:1 1:2", 1},
		{"1:1 2:100001", 1},
		{"1:000001 2:1 3:100001", 2},
		{"1:000001 2:111111", 1},
		{"1:123455 2:123456", 1},
		// It need not be the preceding value that is covered.
		{"1:001 2:01 3:101", 2},
		{"1:001 2:01 3:11", 2},
		{"1:02 2:11 3:12", 2},
		{"1:0111 2:02 3:1 4:2", 3},
		{"1:03 2:12 3:21 4:23", 3},
		{"1:03 2:12 3:21 4:31", 3},
		{"1:03 2:13 3:23", 1},
	} {
		checkValidate(t, register(c.text), fault(api.ErrConflict, c.index))
	}
	full := concurrent(1, api.MaxVersions)
	full[api.MaxVersions-1].Vector[1] = api.MaxVersions
	checkValidate(t, full, fault(api.ErrConflict, api.MaxVersions-1))
}

func TestOrderOfErrorsOfOneValue(t *testing.T) {
	for _, c := range []struct {
		v    api.VersionedValue
		code int
	}{
		{api.VersionedValue{Value: -1}, api.ErrRange},
		{api.VersionedValue{Value: most + 1, Vector: vector()}, api.ErrRange},
		{api.VersionedValue{Value: -1, Vector: vector(0, 2, 2)}, api.ErrRange},
		{api.VersionedValue{Vector: []int{-1}}, api.ErrLength},
		{api.VersionedValue{Vector: []int{1, 1, 1, 1, 1, 1, most + 1}}, api.ErrLength},
		{api.VersionedValue{Vector: make([]int, 5)}, api.ErrLength},
		{api.VersionedValue{Vector: []int{0, 2, 2}}, api.ErrLength},
		{api.VersionedValue{Vector: vector(0, 0, -1)}, api.ErrRange},
		{api.VersionedValue{Vector: vector(-1, 2, 2)}, api.ErrRange},
		{api.VersionedValue{Vector: vector(most+1, 1, 2)}, api.ErrRange},
		{api.VersionedValue{Vector: vector()}, api.ErrMalformed},
		{api.VersionedValue{Vector: vector(0, 1, 1)}, api.ErrMalformed},
		{api.VersionedValue{Vector: vector(0, 1, 2)}, api.ErrMalformed},
		{api.VersionedValue{Vector: vector(0, 1, 3)}, api.ErrMalformed},
		{api.VersionedValue{Vector: vector(0, 2, 1)}, api.ErrMalformed},
		{api.VersionedValue{Vector: vector(0, 2, 2)}, api.ErrConflict},
		{api.VersionedValue{Vector: vector(1, 1, 2)}, api.ErrConflict},
		{api.VersionedValue{Vector: vector(1, 2, 1)}, api.ErrConflict},
		{api.VersionedValue{Vector: vector(1, 1, 1)}, api.OK},
	} {
		want := api.Fault{}
		if c.code != api.OK {
			want = fault(c.code, 2)
		}
		checkValidate(t, append(register("1:012 2:021"), c.v), want)
	}
}

func TestFirstInvalidValueDecides(t *testing.T) {
	list := []api.VersionedValue{
		{Value: -1, Vector: vector(3)},
		{Vector: []int{3}},
		{Vector: vector(3, 0, 0, 0, 0, most+1)},
		{Vector: vector(0, 1)},
		{Vector: vector(2, 2)},
	}
	codes := []int{api.ErrRange, api.ErrLength, api.ErrRange, api.ErrMalformed, api.ErrConflict}
	for i, first := range list {
		for _, second := range list {
			checkValidate(t, append(register("1:02 2:11"), first, second), fault(codes[i], 2))
		}
	}
}

func TestValidateOfSmallRegistersFollowsDefinition(t *testing.T) {
	from := register("1: 2:01 3:02 4:1 5:11 6:12 7:2 8:21 9:000001 1:110001")
	from = append(from,
		api.VersionedValue{Value: -1, Vector: vector(3)},
		api.VersionedValue{Vector: []int{3}},
		api.VersionedValue{Vector: []int{3, 0, 0, 0, 0, 0, 0}},
		api.VersionedValue{Vector: vector(3, -1)},
		api.VersionedValue{Vector: vector(most + 1)},
	)
	valid := 0
	for _, values := range lists(4, from) {
		want := validate(values)
		if want == (api.Fault{}) {
			valid++
		}
		checkValidate(t, values, want)
	}
	if valid < 20 {
		t.Errorf("only %d registers are valid", valid)
	}
}

func TestBrokenRegistersFollowDefinition(t *testing.T) {
	random := rand.New(rand.NewSource(1))
	codes := map[int]int{}
	for range 5000 {
		values := randomRegister(random, 1+random.Intn(api.MaxVersions), 2+random.Intn(5), 1)
		checkValidate(t, values, api.Fault{})
		for range min(len(values), random.Intn(3)) {
			breakOne(random, values)
		}
		want := validate(values)
		codes[want.Code]++
		checkValidate(t, values, want)
	}
	for _, code := range []int{api.OK, api.ErrRange, api.ErrLength, api.ErrMalformed, api.ErrConflict} {
		if codes[code] < 50 {
			t.Errorf("only %d registers have the code %d", codes[code], code)
		}
	}
}

// breakOne changes one value of a register.
func breakOne(random *rand.Rand, values []api.VersionedValue) {
	v, other := &values[random.Intn(len(values))], values[random.Intn(len(values))]
	switch random.Intn(6) {
	case 0:
		v.Value = numbersOutOfRange()[random.Intn(5)]
	case 1:
		v.Vector = make([]int, random.Intn(8))
	case 2, 3:
		if len(v.Vector) > 0 {
			v.Vector[random.Intn(len(v.Vector))] = []int{0, 1, 2, 3, 9, most, most + 1, -1}[random.Intn(8)]
		}
	default:
		v.Vector = slices.Clone(other.Vector)
		if len(v.Vector) > 0 {
			v.Vector[random.Intn(len(v.Vector))] += random.Intn(2)
		}
	}
}

// R10.2

func TestExampleOfWrite(t *testing.T) {
	checkWrite(t, nil, 0, 7, []api.VersionedValue{{Value: 7, Vector: []int{1, 0, 0, 0, 0, 0}}}, api.Fault{})
}

func TestWriteValues(t *testing.T) {
	for _, c := range []struct {
		values         string
		replica, value int
		want           string
	}{
		{"", 0, 0, "0:1"},
		{"", 5, 9, "9:000001"},
		{"1:02", 1, 5, "5:03"},
		{"1:02", 0, 5, "5:12"},
		{"1:02", 5, 5, "5:020001"},
		// A value can be written again.
		{"1:1", 0, 1, "1:2"},
		{"1:01 2:1", 2, 1, "1:111"},
		{"1:02 2:11 3:2", 2, 9, "9:221"},
		{"1:02 2:11 3:2", 0, 9, "9:32"},
		{"1:012 2:021 3:102", 1, 4, "4:132"},
		{"1:000009 2:00008 3:0007 4:006 5:05 6:4", 3, 0, "0:456889"},
		{"1:123456", 4, 7, "7:123466"},
	} {
		checkWrite(t, register(c.values), c.replica, c.value, register(c.want), api.Fault{})
	}
}

func TestWriteAtLimits(t *testing.T) {
	for replica := range replicas {
		v := api.VersionedValue{Value: 1, Vector: slices.Repeat([]int{most}, replicas)}
		v.Vector[replica]--
		next := api.VersionedValue{Value: most, Vector: slices.Repeat([]int{most}, replicas)}
		checkWrite(t, []api.VersionedValue{v}, replica, most, []api.VersionedValue{next}, api.Fault{})
		checkWrite(t, []api.VersionedValue{next}, replica, most, nil, fault(api.ErrTooLarge, -1))
	}
	full := concurrent(1, api.MaxVersions)
	checkWrite(t, full, 1, 2, []api.VersionedValue{{Value: 2, Vector: vector(16, 17)}}, api.Fault{})
}

func TestReplicaOutOfRange(t *testing.T) {
	for _, replica := range []int{-1, replicas, math.MinInt, math.MaxInt} {
		for _, values := range []string{"", "1:02 2:11"} {
			checkWrite(t, register(values), replica, 7, nil, fault(api.ErrRange, -2))
			// The replica comes before the value.
			checkWrite(t, register(values), replica, -1, nil, fault(api.ErrRange, -2))
		}
	}
}

func TestWrittenValueOutOfRange(t *testing.T) {
	last := []api.VersionedValue{{Value: 1, Vector: vector(most)}}
	for _, value := range numbersOutOfRange() {
		checkWrite(t, nil, 5, value, nil, fault(api.ErrRange, -3))
		checkWrite(t, register("1:02 2:11"), 0, value, nil, fault(api.ErrRange, -3))
		// The value comes before the number of the replica.
		checkWrite(t, last, 0, value, nil, fault(api.ErrRange, -3))
	}
}

func TestNumberOfReplicaTooLarge(t *testing.T) {
	values := []api.VersionedValue{
		{Value: 1, Vector: vector(0, most)},
		{Value: 2, Vector: vector(1, 0, most)},
		{Value: 3, Vector: vector(2, 0, 0, most-1)},
	}
	checkWrite(t, values, 1, 7, nil, fault(api.ErrTooLarge, -1))
	checkWrite(t, values, 2, 7, nil, fault(api.ErrTooLarge, -1))
	after := []api.VersionedValue{{Value: 7, Vector: vector(2, most, most, most)}}
	checkWrite(t, values, 3, 7, after, api.Fault{})
	checkWrite(t, after, 3, 7, nil, fault(api.ErrTooLarge, -1))
	checkWrite(t, values, 0, 7, []api.VersionedValue{{Value: 7, Vector: vector(3, most, most, most-1)}}, api.Fault{})
}

func TestWritesFollowDefinition(t *testing.T) {
	random := rand.New(rand.NewSource(2))
	large := 0
	for range 3000 {
		values := randomRegister(random, random.Intn(api.MaxVersions+1), 2+random.Intn(most-2), 1)
		if len(values) > 5 {
			large++
		}
		for replica := range replicas {
			value := random.Intn(most + 1)
			after := write(values, replica, value)
			checkWrite(t, values, replica, value, after, api.Fault{})
			checkValidate(t, after, api.Fault{})
			// It supersedes all that was there.
			checkMerge(t, values, after, after, api.Fault{})
			checkMerge(t, after, values, after, api.Fault{})
		}
	}
	if large < 300 {
		t.Errorf("only %d registers have more than 5 values", large)
	}
}

// R10.3

func TestExampleOfMerge(t *testing.T) {
	first, second := written(t, nil, 0, 7), written(t, nil, 3, 8)
	both := []api.VersionedValue{second[0], first[0]}
	checkMerge(t, first, second, both, api.Fault{})
	checkMerge(t, second, first, both, api.Fault{})
}

func TestMergeValues(t *testing.T) {
	for _, c := range []struct{ a, b, want string }{
		{"", "", ""},
		{"1:1", "", "1:1"},
		{"1:01 2:1", "", "1:01 2:1"},
		{"1:1", "1:1", "1:1"},
		{"1:01 2:1", "1:01 2:1", "1:01 2:1"},
		{"1:01 2:1", "2:1", "1:01 2:1"},
		// The order is that of the vectors, whatever the values are.
		{"1:1", "2:01", "2:01 1:1"},
		{"1:1", "1:01", "1:01 1:1"},
		{"5:2", "6:000009", "6:000009 5:2"},
		{"1:03 2:21", "3:12 4:3", "1:03 3:12 2:21 4:3"},
		{"1:001 2:1", "3:01", "1:001 3:01 2:1"},
		// A newer value takes the place of an older one.
		{"1:1", "2:2", "2:2"},
		{"1:1", "1:2", "1:2"},
		{"1:1", "2:100001", "2:100001"},
		{"1:01 2:1", "3:11", "3:11"},
		{"1:01 2:1", "3:02", "3:02 2:1"},
		{"1:01 2:1", "3:2", "1:01 3:2"},
		{"1:001 2:01 3:1", "4:011", "4:011 3:1"},
		{"1:001 2:01 3:1", "4:101", "2:01 4:101"},
		// Each register can have newer values.
		{"1:01 2:2", "3:02 4:1", "3:02 2:2"},
		{"1:001 2:02 3:1", "4:002 5:01 3:1", "4:002 2:02 3:1"},
		// A value without a copy in the other register is not dropped if nothing there is newer.
		{"1:001 2:01", "1:001", "1:001 2:01"},
		{"1:001 2:01", "3:002", "3:002 2:01"},
		{"1:011 2:1", "3:02 4:101", "1:011 3:02 4:101"},
	} {
		checkMerge(t, register(c.a), register(c.b), register(c.want), api.Fault{})
		checkMerge(t, register(c.b), register(c.a), register(c.want), api.Fault{})
	}
	checkMerge(t, []api.VersionedValue{}, nil, nil, api.Fault{})
}

func TestConflicts(t *testing.T) {
	for _, c := range []struct {
		a, b  string
		index int
	}{
		{"1:1", "2:1", 0},
		{"0:000001", "1:000001", 0},
		{"1:01 2:1", "1:01 1:1", 1},
		// The first one of b counts.
		{"1:01 2:1", "2:01 1:1", 0},
		{"1:001 2:01 3:1", "1:001 3:01 2:1", 1},
		{"3:1", "1:001 2:01 4:1", 2},
		{"1:01 2:1", "9:002 3:01 4:1", 1},
		// There can be newer values of other writes, too.
		{"1:001 2:01 3:1", "4:002 5:02 2:1", 2},
		{"4:002 5:02 2:1", "1:001 2:01 3:1", 2},
	} {
		checkMerge(t, register(c.a), register(c.b), nil, fault(api.ErrConflict, c.index))
	}
	// Equal values of different writes, and different values of different writes, are none.
	checkMerge(t, register("1:01"), register("1:1"), register("1:01 1:1"), api.Fault{})
	checkMerge(t, register("1:1"), register("2:2"), register("2:2"), api.Fault{})
}

func TestSmallMergesFollowDefinition(t *testing.T) {
	var registers [][]api.VersionedValue
	for _, values := range lists(3, register("1:001 2:001 1:01 1:011 1:02 1:1 2:1 1:101 1:11 1:12 1:2")) {
		if Validate(values) == (api.Fault{}) {
			registers = append(registers, values)
		}
	}
	codes := map[int]int{}
	for _, a := range registers {
		for _, b := range registers {
			want, wantFault := merge(a, b)
			codes[wantFault.Code]++
			checkMerge(t, a, b, want, wantFault)
		}
	}
	if codes[api.OK] < 1000 || codes[api.ErrConflict] < 300 {
		t.Errorf("only %d merges and %d conflicts", codes[api.OK], codes[api.ErrConflict])
	}
}

func TestLargeMergesFollowDefinition(t *testing.T) {
	random := rand.New(rand.NewSource(3))
	codes := map[int]int{}
	for range 2000 {
		size, kinds := 2+random.Intn(4), 1+random.Intn(2)
		a := randomRegister(random, api.MaxVersions, size, kinds)
		b := randomRegister(random, api.MaxVersions, size, kinds)
		want, wantFault := merge(a, b)
		codes[wantFault.Code]++
		checkMerge(t, a, b, want, wantFault)
		checkValidate(t, want, api.Fault{})
	}
	for _, code := range []int{api.OK, api.ErrConflict, api.ErrTooLarge} {
		if codes[code] < 50 {
			t.Errorf("only %d merges have the code %d", codes[code], code)
		}
	}
}

func TestMergesDependOnNoOrder(t *testing.T) {
	random := rand.New(rand.NewSource(4))
	for range 3000 {
		size := 2 + random.Intn(4)
		a, b, c := randomRegister(random, 5, size, 1), randomRegister(random, 5, size, 1), randomRegister(random, 5, size, 1)
		ab := merged(t, a, b)
		checkMerge(t, b, a, ab, api.Fault{})
		checkMerge(t, ab, c, merged(t, a, merged(t, b, c)), api.Fault{})
		checkMerge(t, a, a, a, api.Fault{})
		checkMerge(t, ab, a, ab, api.Fault{})
		checkMerge(t, b, ab, ab, api.Fault{})
	}
}

func TestSitesSeeCurrentWrites(t *testing.T) {
	random := rand.New(rand.NewSource(5))
	several := 0
	for range 500 {
		r := randomRun(t, random, 60)
		var all []api.VersionedValue
		known := map[int]bool{}
		for _, s := range r.sites {
			if got, want := valuesOf(s.register), r.current(s.known); !slices.Equal(got, want) {
				t.Fatalf("got %v, want %v", got, want)
			}
			all = merged(t, all, s.register)
			maps.Copy(known, s.known)
		}
		if got, want := valuesOf(all), r.current(known); !slices.Equal(got, want) {
			t.Fatalf("got %v, want %v", got, want)
		}
		if len(all) > 1 {
			several++
		}
	}
	if several < 200 {
		t.Errorf("only %d runs end with several values", several)
	}
}

func TestMergeAtLimits(t *testing.T) {
	all := concurrent(most, 2*api.MaxVersions)
	full := all[:api.MaxVersions]
	checkMerge(t, full, full, full, api.Fault{})
	checkMerge(t, full, nil, full, api.Fault{})
	checkMerge(t, nil, full, full, api.Fault{})
	checkMerge(t, full[5:], full, full, api.Fault{})
	checkMerge(t, full, full[:5], full, api.Fault{})
	checkMerge(t, full[:8], full[8:], full, api.Fault{})
	checkMerge(t, full[8:], full[:8], full, api.Fault{})
	// One value supersedes the first two, or all, of a full register.
	newer := []api.VersionedValue{{Value: 1, Vector: vector(2, 2*api.MaxVersions)}}
	next := all[api.MaxVersions : api.MaxVersions+1]
	checkMerge(t, full, slices.Concat(newer, next), slices.Concat(newer, full[2:], next), api.Fault{})
	checkMerge(t, slices.Concat(newer, next), full, slices.Concat(newer, full[2:], next), api.Fault{})
	newest := []api.VersionedValue{{Value: 1, Vector: slices.Repeat([]int{most}, replicas)}}
	checkMerge(t, full, newest, newest, api.Fault{})
	checkMerge(t, newest, full, newest, api.Fault{})
}

func TestMergeTooLarge(t *testing.T) {
	all := concurrent(1, 2*api.MaxVersions)
	full, want := all[:api.MaxVersions], fault(api.ErrTooLarge, -1)
	checkMerge(t, full, all[api.MaxVersions:], nil, want)
	checkMerge(t, full, all[api.MaxVersions:api.MaxVersions+1], nil, want)
	checkMerge(t, all[api.MaxVersions:api.MaxVersions+1], full, nil, want)
	checkMerge(t, all[:8], all[8:api.MaxVersions+1], nil, want)
	checkMerge(t, full, all[1:api.MaxVersions+1], nil, want)
	// One value supersedes another one, but two are new.
	newer := []api.VersionedValue{{Value: 1, Vector: vector(1, 2*api.MaxVersions+1)}}
	checkMerge(t, full, newer, slices.Concat(newer, full[1:]), api.Fault{})
	checkMerge(t, full, slices.Concat(newer, all[20:21]), nil, want)
	checkMerge(t, slices.Concat(newer, all[20:21]), full, nil, want)
	// A conflict comes first.
	different := copied(all[api.MaxVersions-1:][:api.MaxVersions])
	different[0].Value = 2
	checkMerge(t, full, different, nil, fault(api.ErrConflict, 0))
	checkMerge(t, different, full, nil, fault(api.ErrConflict, api.MaxVersions-1))
}

// Errors of all functions

// An invalidRegister has the error of Validate with this fault.
type invalidRegister struct {
	values []api.VersionedValue
	fault  api.Fault
}

func invalidRegisters() []invalidRegister {
	return []invalidRegister{
		{concurrent(1, api.MaxVersions+1), fault(api.ErrTooMany, -1)},
		{make([]api.VersionedValue, api.MaxVersions+1), fault(api.ErrTooMany, -1)},
		{[]api.VersionedValue{{Value: -1, Vector: vector(1)}}, fault(api.ErrRange, 0)},
		{append(register("1:02"), api.VersionedValue{Value: most + 1, Vector: vector(1, 1)}), fault(api.ErrRange, 1)},
		{[]api.VersionedValue{{Value: 1}}, fault(api.ErrLength, 0)},
		{append(register("1:02 1:11"), api.VersionedValue{Value: 1, Vector: []int{2}}), fault(api.ErrLength, 2)},
		{append(register("1:02"), api.VersionedValue{Value: 1, Vector: vector(1, -1)}), fault(api.ErrRange, 1)},
		{[]api.VersionedValue{{Value: 1, Vector: vector(0, most+1)}}, fault(api.ErrRange, 0)},
		{register("1:"), fault(api.ErrMalformed, 0)},
		{register("1:1 2:01"), fault(api.ErrMalformed, 1)},
		{register("1:02 1:11 1:11"), fault(api.ErrMalformed, 2)},
		{register("1:1 1:2"), fault(api.ErrConflict, 1)},
		{register("1:02 1:11 1:12"), fault(api.ErrConflict, 2)},
	}
}

func TestErrorsOfWrite(t *testing.T) {
	for _, c := range invalidRegisters() {
		checkValidate(t, c.values, c.fault)
		// This comes before the errors of the replica and the value.
		for _, replica := range []int{0, 5, -1, replicas} {
			for _, value := range []int{0, most, -1, most + 1} {
				checkWrite(t, c.values, replica, value, nil, c.fault)
			}
		}
	}
}

func TestErrorsOfMerge(t *testing.T) {
	full := concurrent(9, api.MaxVersions)
	for _, c := range invalidRegisters() {
		// This comes before conflicts, and before the size of the result.
		for _, valid := range [][]api.VersionedValue{nil, register("9:1"), register("9:02 9:11"), full} {
			checkMerge(t, c.values, valid, nil, c.fault)
			checkMerge(t, valid, c.values, nil, fault(c.fault.Code, -2))
		}
		for _, second := range invalidRegisters() {
			checkMerge(t, c.values, second.values, nil, c.fault)
		}
	}
}

// Memory of all functions

// spare returns a copy of a register all of whose lists have more capacity than they need, filled with numbers.
func spare(values []api.VersionedValue) []api.VersionedValue {
	copies := copied(values)
	for i, v := range copies {
		copies[i].Vector = append(v.Vector, 8, 9)[:len(v.Vector)]
	}
	return append(copies, register("8:7 9:07")...)[:len(values)]
}

// withCapacity returns a copy of a register that has what lies in the capacity of its lists, too.
func withCapacity(values []api.VersionedValue) []api.VersionedValue {
	var whole []api.VersionedValue
	for _, v := range values[:cap(values)] {
		whole = append(whole, api.VersionedValue{Value: v.Value, Vector: slices.Clone(v.Vector[:cap(v.Vector)])})
	}
	return whole
}

func TestArgumentsStay(t *testing.T) {
	for _, c := range []struct{ a, b string }{
		{"1:01 2:1", "3:02 4:101"},
		{"1:01 2:1", "1:01 2:1"},
		{"1:01 2:1", "3:11"},
		{"2:1", "1:01"},
		{"1:01 2:1", "1:01 3:1"},
		{"", "1:1"},
		{"1:1 2:01", "1:1"},
		{"1:1", "1:1 2:2"},
	} {
		a, b := spare(register(c.a)), spare(register(c.b))
		beforeA, beforeB := withCapacity(a), withCapacity(b)
		Validate(a)
		Write(a, 1, 5)
		Write(b, 0, 5)
		Write(b, 6, -1)
		Merge(a, b)
		Merge(b, a)
		Merge(a, nil)
		Merge(a, a)
		if !equal(withCapacity(a), beforeA) || !equal(withCapacity(b), beforeB) {
			t.Errorf("the registers %q and %q became %v and %v", c.a, c.b, withCapacity(a), withCapacity(b))
		}
	}
}

func TestArgumentInCapacityOfOther(t *testing.T) {
	memory := register("1:01 2:1 3:02 4:101 5:2")
	before := copied(memory)
	checkMerge(t, memory[:2], memory[2:4], register("3:02 4:101"), api.Fault{})
	checkMerge(t, memory[2:4], memory[:2], register("3:02 4:101"), api.Fault{})
	checkMerge(t, memory[:1], memory[1:2], register("1:01 2:1"), api.Fault{})
	checkMerge(t, memory[:2], nil, register("1:01 2:1"), api.Fault{})
	checkWrite(t, memory[:2], 0, 6, register("6:21"), api.Fault{})
	if !equal(memory, before) {
		t.Errorf("the values became %v", memory)
	}
}

func TestResultsAreNewMemory(t *testing.T) {
	a, b := spare(register("1:01 2:1")), spare(register("3:000003 2:1"))
	registers := [][]api.VersionedValue{a, b}
	for range 2 {
		for _, pair := range [][2][]api.VersionedValue{{a, b}, {b, a}, {a, a}, {a, nil}, {nil, b}} {
			registers = append(registers, merged(t, pair[0], pair[1]))
		}
		registers = append(registers, written(t, a, 0, 5), written(t, nil, 0, 5), written(t, b, 5, 0))
	}
	var vectors [][]int
	for _, values := range registers {
		if len(values) == 0 {
			t.Fatal("a register is empty")
		}
		for _, v := range values {
			vectors = append(vectors, v.Vector)
		}
	}
	if samples.Shared(registers...) || samples.Shared(vectors...) {
		t.Error("the results share memory with each other or with the arguments")
	}
}
