package digest

import (
	"bytes"
	"math"
	"math/big"
	"slices"
	"strings"
	"testing"

	"changeforge/api"
)

const largest = api.DigestModulo - 1

// result is what each function of the package returns.
type result struct {
	digest int
	fault  api.Fault
}

func of(data []byte) result {
	d, fault := Of(data)
	return result{d, fault}
}

func pair(a, b int) result {
	d, fault := Pair(a, b)
	return result{d, fault}
}

func stringList(list []string) result {
	d, fault := Strings(list)
	return result{d, fault}
}

func digestOnly(d int) result { return result{digest: d} }

func faultOnly(code, index int) result { return result{fault: api.Fault{Code: code, Index: index}} }

func check(t *testing.T, call string, got, want result) {
	t.Helper()
	if got != want {
		t.Errorf("%s: got %v, want %v", call, got, want)
	}
}

// exact computes terms of the form factor*n, adds them and reduces the sum once, with numbers of any size.
func exact(addend int, terms ...[2]int) int {
	sum := big.NewInt(int64(addend))
	for _, term := range terms {
		sum.Add(sum, new(big.Int).Mul(big.NewInt(int64(term[0])), big.NewInt(int64(term[1]))))
	}
	return int(sum.Mod(sum, big.NewInt(1<<61-1)).Int64())
}

func exactOf(data string) int {
	h := 1
	for i := 0; i < len(data); i++ {
		h = exact(int(data[i])+1, [2]int{257, h})
	}
	return h
}

func exactPair(a, b int) int { return exact(7, [2]int{1000003, a}, [2]int{31, b}) }

func exactStrings(list []string) int {
	h := 2
	for _, s := range list {
		h = exactPair(h, exactOf(s))
	}
	return h
}

// allBytes contains every byte, those that are not UTF-8 among them.
func allBytes() string {
	var data []byte
	for b := range 256 {
		data = append(data, byte(b))
	}
	return string(data)
}

// R1.1

func TestOfKnownValues(t *testing.T) {
	check(t, "nil", of(nil), digestOnly(1))
	check(t, "empty", of([]byte{}), digestOnly(1))
	check(t, "0", of([]byte{0}), digestOnly(258))
	check(t, "255", of([]byte{255}), digestOnly(257+256))
	check(t, "1 0", of([]byte{1, 0}), digestOnly((257+2)*257+1))
	check(t, "0 1", of([]byte{0, 1}), digestOnly((257+1)*257+2))
}

func TestOfReducesModulo(t *testing.T) {
	data := allBytes() + strings.Repeat("\xff", 300)
	for n := range len(data) + 1 {
		check(t, "prefix", of([]byte(data[:n])), digestOnly(exactOf(data[:n])))
	}
}

func TestOfLimit(t *testing.T) {
	full := strings.Repeat("\xff", api.MaxBuffer)
	check(t, "4096 bytes", of([]byte(full)), digestOnly(exactOf(full)))
	check(t, "4097 bytes", of([]byte(full+"x")), faultOnly(api.ErrTooMany, 0))
	check(t, "many bytes", of(make([]byte, 1<<20)), faultOnly(api.ErrTooMany, 0))
}

func TestOfLeavesArgument(t *testing.T) {
	memory := []byte("argument and spare capacity")
	before := bytes.Clone(memory)
	first := of(memory[:8])
	if !bytes.Equal(memory, before) {
		t.Errorf("the argument became %q", memory)
	}
	check(t, "second call", of(memory[:8]), first)
}

// R1.2

func TestPairValues(t *testing.T) {
	check(t, "0 0", pair(0, 0), digestOnly(7))
	check(t, "1 0", pair(1, 0), digestOnly(1000010))
	check(t, "0 1", pair(0, 1), digestOnly(38))
	check(t, "-1 modulo M, 0", pair(largest, 0), digestOnly(api.DigestModulo-1000003+7))
	check(t, "0, -1 modulo M", pair(0, largest), digestOnly(api.DigestModulo-31+7))
	check(t, "sum 0 modulo M", pair(0, exact(0, [2]int{-7, inverseOf31()})), digestOnly(0))
}

// inverseOf31 is the digest whose product with 31 is 1 modulo M.
func inverseOf31() int {
	return int(new(big.Int).ModInverse(big.NewInt(31), big.NewInt(1<<61-1)).Int64())
}

func TestPairReducesModulo(t *testing.T) {
	numbers := []int{0, 1, 2, 256, 1000003, 1 << 31, 1<<32 - 1, 1 << 44, 1 << 59, 1 << 60, 1<<60 + 1, 1<<61 - 1000004, largest - 1, largest}
	for _, a := range numbers {
		for _, b := range numbers {
			check(t, "pair", pair(a, b), digestOnly(exactPair(a, b)))
		}
	}
}

func TestPairRejects(t *testing.T) {
	for _, bad := range []int{-1, math.MinInt, api.DigestModulo, api.DigestModulo + 1, math.MaxInt} {
		check(t, "first", pair(bad, 0), faultOnly(api.ErrRange, 0))
		check(t, "first", pair(bad, largest), faultOnly(api.ErrRange, 0))
		check(t, "second", pair(0, bad), faultOnly(api.ErrRange, 1))
		check(t, "second", pair(largest, bad), faultOnly(api.ErrRange, 1))
		check(t, "both", pair(bad, bad), faultOnly(api.ErrRange, 0))
	}
}

// R1.3

func TestStringsKnownValues(t *testing.T) {
	check(t, "nil", stringList(nil), digestOnly(2))
	check(t, "empty", stringList([]string{}), digestOnly(2))
	check(t, "one empty string", stringList([]string{""}), digestOnly(2000044))
	check(t, "one byte", stringList([]string{"\x00"}), digestOnly(2*1000003+31*258+7))
	check(t, "two empty strings", stringList([]string{"", ""}), digestOnly(2000044*1000003+31+7))
}

func TestStringsFollowsDefinition(t *testing.T) {
	lists := [][]string{
		{"a", "b"}, {"b", "a"}, {"ab"}, {"ab", ""}, {"", "ab"},
		{allBytes(), "line", "line", "\xff\xfe"},
		{strings.Repeat("\xff", api.MaxBuffer)},
	}
	seen := map[int]bool{}
	for _, list := range lists {
		got := stringList(list)
		check(t, "list", got, digestOnly(exactStrings(list)))
		if seen[got.digest] {
			t.Errorf("%.40q has the digest of another list", list)
		}
		seen[got.digest] = true
	}
}

func TestStringsLimits(t *testing.T) {
	full := slices.Repeat([]string{"text"}, api.MaxLines)
	long := strings.Repeat("x", api.MaxBuffer+1)
	check(t, "120 strings", stringList(full), digestOnly(exactStrings(full)))
	check(t, "121 strings", stringList(append(full, "")), faultOnly(api.ErrTooMany, -1))
	check(t, "first too long", stringList([]string{long, "a"}), faultOnly(api.ErrTooMany, 0))
	check(t, "third too long", stringList([]string{"a", long[1:], long, "b", long}), faultOnly(api.ErrTooMany, 2))
	full[api.MaxLines-1] = long
	check(t, "last too long", stringList(full), faultOnly(api.ErrTooMany, api.MaxLines-1))
}

func TestStringsCountsListFirst(t *testing.T) {
	long := strings.Repeat("x", api.MaxBuffer+1)
	list := slices.Repeat([]string{long}, api.MaxLines+1)
	check(t, "too many, too long", stringList(list), faultOnly(api.ErrTooMany, -1))
}

func TestStringsLeavesArgument(t *testing.T) {
	memory := []string{"a", "b", "spare", "capacity"}
	before := slices.Clone(memory)
	first := stringList(memory[:2])
	if !slices.Equal(memory, before) {
		t.Errorf("the argument became %q", memory)
	}
	check(t, "second call", stringList(memory[:2]), first)
}
