// Package bitset: sets of small numbers; see doc/01-bitset.md.
package bitset

import (
	"iter"
	"math/bits"

	"forkwright/api"
)

const wordBits = 64

// Of returns the set of the elements of l that are between 0 and MaxNumber.
func Of(l []int) []uint64 {
	greatest := -1
	for n := range allowed(l) {
		greatest = max(greatest, n)
	}
	// The word of the greatest element is the last one, so that none behind it is zero.
	s := make([]uint64, (greatest+wordBits)/wordBits)
	for n := range allowed(l) {
		s[n/wordBits] |= 1 << (n % wordBits)
	}
	return s
}

// List returns the elements of s in increasing order.
func List(s []uint64) []int {
	l := make([]int, 0, Size(s))
	for n := range elements(s) {
		l = append(l, n)
	}
	return l
}

// And returns the intersection of s and t.
func And(s, t []uint64) []uint64 {
	return merge(s, t, func(a, b uint64) uint64 { return a & b })
}

// Or returns the union of s and t.
func Or(s, t []uint64) []uint64 {
	return merge(s, t, func(a, b uint64) uint64 { return a | b })
}

// Less returns the elements of s that are not in t.
func Less(s, t []uint64) []uint64 {
	return merge(s, t, func(a, b uint64) uint64 { return a &^ b })
}

// Size returns the number of elements of s.
func Size(s []uint64) int {
	n := 0
	for _, w := range s {
		n += bits.OnesCount64(w)
	}
	return n
}

// Within reports whether s is a subset of t.
func Within(s, t []uint64) bool {
	for i, w := range s {
		if w&^word(t, i) != 0 {
			return false
		}
	}
	return true
}

func allowed(l []int) iter.Seq[int] {
	return func(yield func(int) bool) {
		for _, n := range l {
			if 0 <= n && n <= api.MaxNumber && !yield(n) {
				return
			}
		}
	}
}

func elements(s []uint64) iter.Seq[int] {
	return func(yield func(int) bool) {
		for i, w := range s {
			// w & (w - 1) is w without its lowest bit: bits that are 0 cost nothing.
			for ; w != 0; w &= w - 1 {
				if !yield(i*wordBits + bits.TrailingZeros64(w)) {
					return
				}
			}
		}
	}
}

func merge(s, t []uint64, op func(a, b uint64) uint64) []uint64 {
	n := max(len(s), len(t))
	// The end is sought before anything is made: arguments may have many trailing zero words, answers have none.
	for n > 0 && op(word(s, n-1), word(t, n-1)) == 0 {
		n--
	}
	out := make([]uint64, n)
	for i := range out {
		out[i] = op(word(s, i), word(t, i))
	}
	return out
}

func word(s []uint64, i int) uint64 {
	if i < len(s) {
		return s[i]
	}
	return 0
}
