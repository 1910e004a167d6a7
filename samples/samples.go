// Package samples makes values for the tests of the other packages.
package samples

import (
	"slices"
	"strings"

	"changeforge/api"
)

// Lines at the limits of a text.
const (
	eightBytes = "xxxxxxxx"
	Longest    = eightBytes + eightBytes + eightBytes + eightBytes + eightBytes +
		eightBytes + eightBytes + eightBytes + eightBytes + eightBytes
	TooLong = Longest + "x"
	NewLine = "a\nb"
)

// Fault returns a fault.
func Fault(code, index int) api.Fault { return api.Fault{Code: code, Index: index} }

// Repeat returns a text of n equal lines.
func Repeat(line string, n int) []string { return slices.Repeat([]string{line}, n) }

// Words divides a text that is written in one line into its lines.
func Words(text string) []string { return strings.Fields(text) }

// Texts returns all texts of at most n lines that are taken from the given ones.
func Texts(n int, from ...string) [][]string {
	all := [][]string{{}}
	last := all
	for range n {
		var next [][]string
		for _, text := range last {
			for _, line := range from {
				next = append(next, append(slices.Clone(text), line))
			}
		}
		all = append(all, next...)
		last = next
	}
	return all
}

// An InvalidText has an error at one line, or as a whole.
type InvalidText struct {
	Text  []string
	Fault api.Fault
}

// InvalidTexts returns texts with their errors.
func InvalidTexts() []InvalidText {
	return []InvalidText{
		{Repeat("a", api.MaxLines+1), Fault(api.ErrTooMany, -1)},
		{Repeat(NewLine, api.MaxLines+1), Fault(api.ErrTooMany, -1)},
		{[]string{TooLong}, Fault(api.ErrTooMany, 0)},
		{[]string{"a", Longest, TooLong, NewLine}, Fault(api.ErrTooMany, 2)},
		{[]string{"a", NewLine, TooLong}, Fault(api.ErrMalformed, 1)},
		{append(Repeat("a", api.MaxLines-1), NewLine), Fault(api.ErrMalformed, api.MaxLines-1)},
	}
}

// RandomText returns a text of n lines of the given number of kinds. A call of random returns a number in [0, n).
func RandomText(random func(n int) int, n, kinds int) []string {
	var text []string
	for range n {
		text = append(text, string(rune('a'+random(kinds))))
	}
	return text
}

// Spare returns a copy of a text that has more capacity than it needs, filled with lines.
func Spare(text []string) []string {
	return append(slices.Clone(text), "spare", "capacity")[:len(text)]
}

// Shared tells whether any two of the lists share memory, including their spare capacity.
func Shared[T any](lists ...[]T) bool {
	seen := map[*T]bool{}
	for _, list := range lists {
		list = list[:cap(list)]
		for i := range list {
			if seen[&list[i]] {
				return true
			}
			seen[&list[i]] = true
		}
	}
	return false
}
