package flow

import (
	"iter"
	"math/bits"
)

// set is a set of numbers from 0 on, in words of 64 bits.
type set []uint64

// newSet makes an empty set for so many numbers.
func newSet(many int) set { return make(set, (many+63)/64) }

// fullSet makes a set of all numbers.
func fullSet(many int) set {
	s := newSet(many)
	s.fill()
	return s
}

// has tells whether a number is in the set.
func (s set) has(n int) bool { return s[n/64]>>(n%64)&1 == 1 }

// add puts a number in.
func (s set) add(n int) { s[n/64] |= 1 << (n % 64) }

// fill puts all numbers in.
func (s set) fill() {
	for n := range len(s) {
		s[n] = ^uint64(0)
	}
}

// clear takes all numbers out.
func (s set) clear() {
	for n := range len(s) {
		s[n] = 0
	}
}

// keep takes out what isn't in another set.
func (s set) keep(other set) {
	for n := range len(s) {
		s[n] &= other[n]
	}
}

// size tells how many numbers are in.
func (s set) size() int {
	many := 0
	for _, w := range s {
		many += bits.OnesCount64(w)
	}
	return many
}

// places tells the numbers, rising.
func (s set) places() iter.Seq[int] {
	return func(yield func(int) bool) {
		for n, w := range s {
			for ; w != 0; w &= w - 1 {
				if !yield(n*64 + bits.TrailingZeros64(w)) {
					return
				}
			}
		}
	}
}
