package takings

import (
	"cmp"
	"slices"
)

// total returns the sum of all numbers.
func total(numbers ...int) int {
	sum := 0
	for _, n := range numbers {
		sum += n
	}
	return sum
}

// split returns how an amount is split by valid weights.
func split(cents int, weights []int) []int {
	all := total(weights...)
	parts := make([]int, len(weights))
	cut := make([]int, len(weights)) // what has been cut off, all measured by the same divisor
	order := make([]int, len(weights))
	for i, w := range weights {
		parts[i], cut[i], order[i] = cents*w/all, cents*w%all, i
	}
	// The order is stable: among equal remainders the lower number stays before the other one.
	slices.SortStableFunc(order, func(a, b int) int { return cmp.Compare(cut[b], cut[a]) })
	for _, i := range order[:cents-total(parts...)] {
		parts[i]++
	}
	return parts
}

// pay pays claims in order as far as an amount lasts, and returns what is left of it.
func pay(cents int, claims ...int) (paid []int, rest int) {
	for _, claim := range claims {
		paid = append(paid, min(claim, cents))
		cents -= min(claim, cents)
	}
	return paid, cents
}

// rent returns the rent for a stall; where least is more than has been taken, it is what has been taken.
func rent(taken, percent, least int) int {
	return min(max(taken*percent/100, least), taken)
}

// splitNights returns what each one gets if each night is split by itself.
func splitNights(nights, weights []int) []int {
	parts := make([]int, len(weights))
	for _, cents := range nights {
		for i, part := range split(cents, weights) {
			parts[i] += part
		}
	}
	return parts
}

// furthest returns by how much an element of a list differs at the most from that of another one of the same length.
func furthest(a, b []int) int {
	off := 0
	for i := range a {
		off = max(off, a[i]-b[i], b[i]-a[i])
	}
	return off
}
