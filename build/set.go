package build

import "slices"

// set is a set of parts: for each part, whether it is in the set.
type set []bool

// setOf returns a set of all of so many parts, or of none of them.
func setOf(parts int, all bool) set { return slices.Repeat(set{all}, parts) }

func (s set) has(part int) bool { return s[part] }

func (s set) lacks(part int) bool { return !s[part] }

func (s set) hasAny(parts []int) bool { return slices.ContainsFunc(parts, s.has) }

func (s set) hasAll(parts []int) bool { return !slices.ContainsFunc(parts, s.lacks) }

// numbersWhere returns those of so many numbers from 0 on of which something is so, in ascending order.
func numbersWhere(count int, is func(number int) bool) []int {
	var numbers []int
	for n := range count {
		if is(n) {
			numbers = append(numbers, n)
		}
	}
	return numbers
}
