package build

import (
	"slices"

	"waltzer/api"
)

// maxSeen is how many numbers can be seen on a lorry.
const maxSeen = 100

// canBeSeen reports whether this can be what has been seen on the lorries of a kit.
func canBeSeen(k api.Kit, seen [][]int) bool {
	return len(seen) == len(k.Vans) && !slices.ContainsFunc(seen, func(l []int) bool { return len(l) > maxSeen })
}

// lackingParts returns the parts that have been seen nowhere.
func lackingParts(k api.Kit, seen [][]int) []int {
	all := slices.Concat(seen...)
	return numbersWhere(len(k.Parts), func(part int) bool { return !slices.Contains(all, part) })
}

// strangeVans returns the lorries on which something else has been seen than lies there, or in another order.
func strangeVans(k api.Kit, seen [][]int) []int {
	return numbersWhere(len(k.Vans), func(van int) bool { return !slices.Equal(seen[van], k.Vans[van]) })
}
