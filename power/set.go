package power

import (
	"cmp"
	"iter"
	"math/bits"
	"slices"
)

// set has numbers from 0 on: of loads, or of generators that can be hired. The bit i tells whether i is in it.
type set int

// firstNumbers returns the set of so many numbers from 0 on.
func firstNumbers(n int) set { return 1<<n - 1 }

func (s set) size() int { return bits.OnesCount(uint(s)) }

// each goes through the numbers in ascending order.
func (s set) each() iter.Seq[int] {
	return func(yield func(int) bool) {
		for left := s; left != 0; left &= left - 1 {
			if !yield(bits.TrailingZeros(uint(left))) {
				return
			}
		}
	}
}

// list returns the numbers in ascending order.
func (s set) list() []int { return slices.Collect(s.each()) }

// sum adds what each number is worth.
func (s set) sum(worth func(number int) int) int {
	sum := 0
	for n := range s.each() {
		sum += worth(n)
	}
	return sum
}

// subsets goes through all sets of some of the numbers, in ascending order.
func (s set) subsets(yield func(set) bool) {
	for part := set(0); yield(part) && part != s; {
		// The bits that are not in s carry over, so that this is the next number with bits of s alone.
		part = (part - s) & s
	}
}

// cheapest returns the part of a whole set that is enough for the least price, of several the one with the fewest numbers, and of these the first one in an order; and its price. The whole has to be enough.
func cheapest(whole set, price func(number int) int, enough func(set) bool, order func(a, b set) int) (best set, sum int) {
	best, sum = whole, whole.sum(price)
	for part := range whole.subsets {
		n := part.sum(price)
		better := cmp.Or(cmp.Compare(n, sum), cmp.Compare(part.size(), best.size()), order(part, best)) < 0
		if better && enough(part) {
			best, sum = part, n
		}
	}
	return best, sum
}
