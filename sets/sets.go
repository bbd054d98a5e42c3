// Package sets is layer 1: sets of numbers, as texts: see shared/doc/01-sets.md.
package sets

import (
	"bytes"
	"iter"
	"math/bits"

	"stillage/api"
)

// Of is the set of numbers.
func Of(l []int) (string, api.Errno) {
	most := -1
	for _, n := range l {
		if n < 0 || n > api.MaxNum {
			return "", api.ErrSetsRange
		}
		most = max(most, n)
	}
	// The byte of the greatest number is not 0 and the last one: the text is the least one.
	set := make([]byte, (most+8)/8)
	for _, n := range l {
		set[n/8] |= 1 << (n % 8)
	}
	return string(set), api.OK
}

// List are a set's numbers.
func List(s string) []int {
	var l []int
	for n := range numbers(s, 0) {
		l = append(l, n)
	}
	return l
}

// Has tells whether a number is in a set.
func Has(s string, n int) bool {
	return n >= 0 && n/8 < len(s) && s[n/8]>>(n%8)&1 == 1
}

// And is the set of the numbers that are in both.
func And(a, b string) string {
	return merge(a, b, func(x, y byte) byte { return x & y })
}

// Or is the set of the numbers that are in one of them.
func Or(a, b string) string {
	return merge(a, b, func(x, y byte) byte { return x | y })
}

// Minus is the set of the numbers that are in a and not in b.
func Minus(a, b string) string {
	return merge(a, b, func(x, y byte) byte { return x &^ y })
}

// Count is how many numbers a set has.
func Count(s string) int {
	count := 0
	for i := range len(s) {
		count += bits.OnesCount8(s[i])
	}
	return count
}

// Next is the first number of a set from one on.
func Next(s string, from int) (int, bool) {
	for n := range numbers(s, from) {
		return n, true
	}
	return 0, false
}

// Gap is the first number that a set has not, from one on, below another one.
func Gap(s string, from, end int) (int, bool) {
	gap := max(from, 0)
	for n := range numbers(s, gap) {
		if n != gap || gap >= end {
			break
		}
		gap++
	}
	if gap >= end {
		return 0, false
	}
	return gap, true
}

// numbers goes over a set's numbers from one on, rising.
func numbers(s string, from int) iter.Seq[int] {
	first := max(from, 0)
	return func(yield func(int) bool) {
		// Only in the first byte are there bits below the one that is asked for.
		mask := byte(0xff) << (first % 8)
		for i := first / 8; i < len(s); i++ {
			for b := s[i] & mask; b != 0; b &= b - 1 {
				if !yield(8*i + bits.TrailingZeros8(b)) {
					return
				}
			}
			mask = 0xff
		}
	}
}

// pairs goes over the bytes of two sets side by side; behind the shorter one's end it has none, which is as good as bytes 0.
func pairs(a, b string) iter.Seq2[byte, byte] {
	return func(yield func(x, y byte) bool) {
		for i := range max(len(a), len(b)) {
			if !yield(byteAt(a, i), byteAt(b, i)) {
				return
			}
		}
	}
}

// byteAt is a set's byte, also where its text has none.
func byteAt(s string, i int) byte {
	if i < len(s) {
		return s[i]
	}
	return 0
}

// merge is the least text of what each pair of two sets' bytes makes.
func merge(a, b string, of func(x, y byte) byte) string {
	set := make([]byte, 0, max(len(a), len(b)))
	for x, y := range pairs(a, b) {
		set = append(set, of(x, y))
	}
	return string(bytes.TrimRight(set, "\x00"))
}
