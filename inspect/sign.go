package inspect

import "waltzer/api"

// nobody stands for the second person where one alone signs.
const nobody = -1

// maySign reports whether a person, and another one or nobody, may sign a check.
func maySign(b api.Book, r api.Rule, person, other int) bool {
	if !r.Two {
		return hasRank(b, person, r.Rank) && other == nobody
	}
	return hasRank(b, person, r.Rank) && hasRank(b, other, r.Rank) && person != other
}

// hasRank reports whether there is a person of this number, with at least a rank.
func hasRank(b api.Book, number, rank int) bool {
	return isPerson(b, number) && b.Ranks[number] >= rank
}

// signers returns all who may sign a check.
func signers(b api.Book, r api.Rule) [][2]int {
	var all [][2]int
	for person := range b.Ranks {
		for other := nobody; other < len(b.Ranks); other++ {
			if maySign(b, r, person, other) {
				all = append(all, [2]int{person, other})
			}
		}
	}
	return all
}
