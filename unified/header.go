package unified

import (
	"strconv"
	"strings"

	"changeforge/api"
)

// A place is an index in the old text and one in the new text.
type place [2]int

// The texts of a place.
const (
	inOld = iota
	inNew
)

// headerOf returns the header of a group with the lines from one place to another one.
func headerOf(from, to place) string {
	return "@@ -" + rangeOf(from[inOld], to[inOld]) + " +" + rangeOf(from[inNew], to[inNew]) + " @@"
}

func rangeOf(from, to int) string {
	// Lines are counted from 1. Without lines, the number is that of the line before, which equals the index.
	first := from
	if from < to {
		first++
	}
	return strconv.Itoa(first) + "," + strconv.Itoa(to-from)
}

// parseHeader returns the places between which the lines of a group are.
func parseHeader(line string) (from, to place, ok bool) {
	line, begins := strings.CutPrefix(line, "@@ -")
	line, ends := strings.CutSuffix(line, " @@")
	before, after, _ := strings.Cut(line, " +")
	ok = begins && ends
	for side, written := range [2]string{before, after} {
		var valid bool
		from[side], to[side], valid = parseRange(written)
		ok = ok && valid
	}
	return from, to, ok && from != to
}

// parseRange is the inverse of rangeOf.
func parseRange(written string) (from, to int, ok bool) {
	// Where there is no comma, the second number is empty and thus invalid.
	first, count, _ := strings.Cut(written, ",")
	from, isFirst := parseNumber(first)
	n, isCount := parseNumber(count)
	if n > 0 {
		from--
	}
	return from, from + n, isFirst && isCount && from >= 0
}

// parseNumber returns a number of a header.
func parseNumber(digits string) (int, bool) {
	n, err := strconv.Atoi(digits)
	// Atoi also accepts signs and superfluous zeros.
	if err != nil || strconv.Itoa(n) != digits || n < 0 || n > api.MaxLines+1 {
		return 0, false
	}
	return n, true
}
