package pattern

import (
	"math/bits"
	"strings"
)

// signs stand in the order of their bytes, so that a span is a run of them.
const signs = ",0123456789:;=_abcdefghijklmnopqrstuvwxyz"

// IsSign tells whether a byte is a sign.
func IsSign(b byte) bool {
	return strings.IndexByte(signs, b) >= 0
}

// set holds a bit for each sign, by its index in signs.
type set uint64

// span is the set of the signs from the first to the last one; both are signs.
func span(first, last byte) set {
	low := strings.IndexByte(signs, first)
	high := strings.IndexByte(signs, last)
	return set(1)<<(high+1) - set(1)<<low
}

func (s set) has(b byte) bool {
	index := strings.IndexByte(signs, b)
	return index >= 0 && s>>index&1 == 1
}

// lowest is the first sign of a set that is not empty.
func (s set) lowest() byte {
	return signs[bits.TrailingZeros64(uint64(s))]
}
