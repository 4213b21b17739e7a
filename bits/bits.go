// Package bits: sets of numbers: see ../shared/doc/01-bits.md.
package bits

import (
	mathbits "math/bits"

	"millwright/api"
)

// Of returns the set of the numbers in l.
func Of(l []int) (uint64, api.Errno) {
	s := uint64(0)
	for _, n := range l {
		if n < 0 || n >= api.MaxSet {
			return 0, api.ErrRange
		}
		s |= 1 << n
	}
	return s, api.OK
}

// List returns the numbers of s in increasing order.
func List(s uint64) []int {
	l := make([]int, 0, Count(s))
	for s != 0 {
		l = append(l, smallest(s))
		s = withoutSmallest(s)
	}
	return l
}

// Count returns how many numbers s has.
func Count(s uint64) int { return mathbits.OnesCount64(s) }

// Next returns the smallest number of s that is not less than n.
func Next(s uint64, n int) (int, bool) {
	rest := s &^ clampedBelow(n)
	if rest == 0 {
		return 0, false
	}
	return smallest(rest), true
}

// Nth returns the element with index k of List(s).
func Nth(s uint64, k int) (int, bool) {
	if k < 0 || k >= Count(s) {
		return 0, false
	}
	for range k {
		s = withoutSmallest(s)
	}
	return smallest(s), true
}

// Rank returns how many numbers of s are less than n.
func Rank(s uint64, n int) int { return Count(s & clampedBelow(n)) }

// Below returns the set of all numbers less than n.
func Below(n int) (uint64, api.Errno) {
	if n < 0 || n > api.MaxSet {
		return 0, api.ErrRange
	}
	return clampedBelow(n), api.OK
}

// Sub returns the smallest subset of s that is greater than t.
func Sub(s, t uint64) (uint64, bool) {
	// Ones outside s pass the carry on, so that adding 1 counts within s only.
	// The sum wraps to 0 exactly if the whole of s was reached.
	u := ((greatestWithin(s, t) | ^s) + 1) & s
	return u, u != 0
}

// Even returns the numbers that have an odd number of elements of s at or below them.
func Even(s uint64) uint64 {
	// Each step doubles the number of lower bits that a bit has taken in.
	for step := 1; step < api.MaxSet; step *= 2 {
		s ^= s << step
	}
	return s
}

// smallest returns the smallest number of s, which is not empty.
func smallest(s uint64) int { return mathbits.TrailingZeros64(s) }

// withoutSmallest returns s without its smallest number.
func withoutSmallest(s uint64) uint64 { return s & (s - 1) }

// clampedBelow returns the numbers of 0 to 63 that are less than n, for any n.
func clampedBelow(n int) uint64 {
	n = min(max(n, 0), api.MaxSet)
	// A shift by 64 gives 0, and 0 - 1 wraps to the full set.
	return uint64(1)<<n - 1
}

// greatestWithin returns the greatest subset of s that is at most t.
func greatestWithin(s, t uint64) uint64 {
	outside := t &^ s
	if outside == 0 {
		return t
	}
	// The highest number of t outside s cannot be kept. What is above it stays,
	// and giving it up makes every smaller number of s free to take.
	lower := clampedBelow(mathbits.Len64(outside))
	return t&^lower | s&lower
}
