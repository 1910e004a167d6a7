package samples

import "slices"

// Alignment is the walk through two texts that the document describes for package diff: a word of the letters k, d and i for lines that are kept, deleted and inserted. It is told how to find the length of the longest common subsequence of two texts.
func Alignment(a, b []string, longestCommon func(a, b []string) int) string {
	word := ""
	for len(a) > 0 || len(b) > 0 {
		switch {
		case len(a) > 0 && len(b) > 0 && a[0] == b[0]:
			word += "k"
			a, b = a[1:], b[1:]
		case len(b) == 0:
			word += "d"
			a = a[1:]
		case len(a) > 0 && longestCommon(a[1:], b) >= longestCommon(a, b[1:]):
			word += "d"
			a = a[1:]
		default:
			word += "i"
			b = b[1:]
		}
	}
	return word
}

// LongestCommon returns the length of the longest common subsequence of two texts. It counts the places at which the subsequences of each length end soonest.
func LongestCommon(a, b []string) int {
	var ends []int
	for _, line := range a {
		for n := len(ends); n >= 0; n-- {
			from := 0
			if n > 0 {
				from = ends[n-1]
			}
			k := slices.Index(b[from:], line)
			switch {
			case k < 0:
			case n == len(ends):
				ends = append(ends, from+k+1)
			default:
				ends[n] = min(ends[n], from+k+1)
			}
		}
	}
	return len(ends)
}
