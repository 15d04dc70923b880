package ground

import (
	"iter"
	"math/bits"
	"slices"
)

// set has numbers from 0 to 63: of cells, as a ground has no more, or of pitches.
type set uint64

func setOf(numbers ...int) set {
	var s set
	for _, n := range numbers {
		s |= 1 << n
	}
	return s
}

func (s set) has(number int) bool { return s.hasAll(setOf(number)) }

func (s set) hasAll(other set) bool { return other&^s == 0 }

func (s set) size() int { return bits.OnesCount64(uint64(s)) }

// each goes through the numbers in ascending order.
func (s set) each() iter.Seq[int] {
	return func(yield func(int) bool) {
		for left := s; left != 0; left &= left - 1 {
			if !yield(bits.TrailingZeros64(uint64(left))) {
				return
			}
		}
	}
}

// list returns the numbers in ascending order.
func (s set) list() []int { return slices.Collect(s.each()) }
