// Package digest computes digests: hash values modulo 2^61 - 1.
package digest

import (
	"math/bits"

	"changeforge/api"
)

// Of returns the digest of data.
func Of(data []byte) (int, api.Fault) {
	if len(data) > api.MaxBuffer {
		return 0, api.Fault{Code: api.ErrTooMany}
	}
	h := 1
	for _, b := range data {
		h = mulAdd(257, h, int(b)+1)
	}
	return h, api.Fault{}
}

// Pair returns the digest of two digests.
func Pair(a, b int) (int, api.Fault) {
	for i, n := range [2]int{a, b} {
		if n < 0 || n >= api.DigestModulo {
			return 0, api.Fault{Code: api.ErrRange, Index: i}
		}
	}
	return combine(a, b), api.Fault{}
}

// Strings returns the digest of a list of strings.
func Strings(list []string) (int, api.Fault) {
	if len(list) > api.MaxLines {
		return 0, api.Fault{Code: api.ErrTooMany, Index: -1}
	}
	h := 2
	for i, s := range list {
		d, fault := Of([]byte(s))
		if fault != (api.Fault{}) {
			return 0, api.Fault{Code: fault.Code, Index: i}
		}
		h = combine(h, d)
	}
	return h, api.Fault{}
}

// combine is Pair for numbers that are known to be digests.
func combine(a, b int) int {
	return mulAdd(1000003, a, mulAdd(31, b, 7))
}

// mulAdd returns factor*n + addend modulo DigestModulo; none of the three may be negative.
// It computes with 128 bits because the product of a factor and a digest does not fit into 64.
func mulAdd(factor, n, addend int) int {
	high, low := bits.Mul64(uint64(factor), uint64(n))
	low, carry := bits.Add64(low, uint64(addend), 0)
	return int(bits.Rem64(high+carry, low, api.DigestModulo))
}
